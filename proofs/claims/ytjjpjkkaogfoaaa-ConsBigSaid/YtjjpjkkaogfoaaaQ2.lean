/- Tree: unions. Written by gen_wrec.py. -/
import Derived.Test.YtjjpjkkaogfoaaaQ1
import Derived.Test.YtjjpjkkaogfoaaaWFewAll
import Derived.Test.YtjjpjkkaogfoaaaWRefA
import Derived.Deep.CutBlock
import Derived.Test.YtjjpjkkaogfoaaaDrawF
namespace Go.Proofs.Ytjjpjkkaogfoaaa
open Go.RowKit
namespace Sp
open Sc

set_option maxRecDepth 100000 in
set_option maxHeartbeats 16000000 in
theorem tree_7r (D d : Nat) (hD : D = d + 1) (ih : TreeC d) (hd : d ≤ 1000) (hd1 : 1 ≤ d) (kd n : Int) (ns : List Int) (ks : List Rw) (c : R4) (names : List (List UInt8)) (na : Option Addr) (nc : Nat) (w : World) (hV : RwV w (.mk kd n ns ks) c) (hnl : names.length ≤ 1000) (hnm : RowV w (Any w) na 1 (names.map fun n => [str n])) (hk0 : kd % 9 = 7) :
    Calls Try.prog 22 #[.agg #[.int .i64 c.k, .int .i64 c.n, .slice c.an c.ln c.cn, .slice c.ak c.lk c.ck], .int .i64 D, .slice na names.length nc] w (TreeP (treeR names D (.mk kd n ns ks)) w) := by
  have hT : topK names.length (d + 1) kd = 8 := by unfold topK; rw [hk0]; exact if_neg (by omega)
  rw [hD, treeR_recT names d kd n ns ks 8 hT (by omega), ← hD]
  have hV0 := hV
  cases hV with
  | mk _ _ _ _ an cn ak ck us hk hn hii hln hlk hl ha hb hu =>
    obtain ⟨hkl, hkh⟩ := hk
    have hdz : ¬ (D : Int) ≤ 1 := by omega
    have hdm : (D : Int) - 1 = (d : Int) := by omega
    have hdw : IntKind.i64.wrap ((D : Int) - 1) = (d : Int) := by rw [IntKind.wrap_i64]; omega
    have HK0 := Lib.hid hk0; have HV := Lib.hid hV0; have HNM := Lib.hid hnm; have HIH := Lib.hid ih; have HD := Lib.hid hD; have HA := Lib.hid ha; have HI := Lib.hid hii
    clear hu hb ha hii hl hT hk0 hnm hV0 ih hD
    go_enter Try.func22, Try.ntmps22
    go_wp2_with (go_at_call 50; (with_reducible refine (within3_is _ _ _ _ (by omega) (by omega) hkl hkh HK0.out).mono ?_); rintro e w2 ⟨rfl, hw⟩; have hz2 : w2.heap.size = w.heap.size + 2 := (by rw [← hw]; simp); have hb2 : Below w.heap.size w w2 := (by rw [← hw]; exact ((Below.refl _ _).alloc (Nat.le_refl _) _).alloc (by simp) _); have hr2 : w2.heap[w.heap.size]? = some (.cells #[.int .i64 kd, .int .i64 n, .slice an ns.length cn, .slice ak ks.length ck] 33 (0, 0)) := (by rw [← hw, blk_if, if_neg (by simp), blk_if, if_pos rfl]); have ho2 : w2.heap[w.heap.size + 1]? = some (.cells #[.int .i64 0, .string ⟨#[]⟩, .slice none 0 0, .slice none 0 0] 25 (0, 0)) := (by rw [← hw, blk_if, if_pos (by simp)]); obtain ⟨⟨r0, r1, r2, r3⟩, -⟩ := four_blk hr2; obtain ⟨⟨o0, o1, o2, o3⟩, ⟨f0, f1, f2, f3⟩⟩ := four_blk ho2; have HB2 := Lib.hid hb2; have HR2 := Lib.hid hr2; have HO2 := Lib.hid ho2; clear hw hb2 hr2 ho2)
    go_loopw [9] (fun iv wr => ∃ i, TRel w ⟨kd, n, an, ns.length, cn, ak, ks.length, ck⟩ names d kd n ns ks 8 iv wr i) (fun iv _ => 5 - (intOf iv).toNat)
    case atStart => exact ⟨0, rfl, Nat.zero_le _, by simp; omega, HB2.out.alloc (by omega) _, by rw [blk_if, if_neg (by omega)]; exact HR2.out, by rw [blk_if, if_neg (by omega)]; exact HO2.out, ⟨8, ⟨#[]⟩, none, 0, 0, none, 0, 0⟩, by rw [blk_if, if_pos (by omega)], TzV.leaf _ _ 8 [], ⟨Nat.le_refl _, Nat.le_refl _⟩⟩
    case round =>
      obtain ⟨i, h⟩ := hrel
      obtain rfl := h.slot
      have hzr := h.size
      have hle := h.le
      have hle4 : i ≤ 4 := by unfold fldM at hle; simp at hle; omega
      obtain ⟨⟨tk, tn, tan, tln, tcn, tak, tlk, tck⟩, htt, hvt, hct⟩ := h.var
      simp only at htt
      obtain ⟨⟨r0, r1, r2, r3⟩, _⟩ := four_blk h.raw
      obtain ⟨⟨t0, t1, t2, t3⟩, _⟩ := four_blk htt
      have H := Lib.hid h; have HTT := Lib.hid htt; have HVT := Lib.hid hvt; have HCT := Lib.hid hct
      clear h htt hvt hct
      by_cases hil : i < ns.length
      · by_cases hi4 : i < 4
        · have hiz : (i : Int) < (ns.length : Int) := by omega
          have hi4z : (i : Int) < 4 := by omega
          have hi0 : (0 : Int) ≤ (i : Int) := by omega
          obtain ⟨gi, oi, rfl, hgi, hci⟩ := int_name HA.out i hil
          have c0 := hci wr H.out.below
          have hii1 := HI.out _ (List.getElem_mem hil)
          have hnm' : fldN ns i = nameL ns[i] := by unfold fldN; rw [List.getElem?_eq_getElem hil]
          have HII := Lib.hid hii1; have HNE := Lib.hid hnm'
          clear hci hii1 hnm'
          generalize ns[i] = nz at *
          go_wp2_with (go_at_call 52; (with_reducible refine (Name3_any nz wr HII.out).mono ?_); rintro e w5 ⟨rfl, hb5⟩; have HB5 := Lib.hid hb5; have hz5 := hb5.size; clear hb5)
          generalize nameL nz = nm at *
          refine wp_region_by (TJ w w.heap.size D d i ⟨tk, tn, tan, tln, tcn, tak, tlk, tck⟩ nm ⟨kd, n, (some ⟨gi, oi, none⟩), ns.length, cn, ak, ks.length, ck⟩ na names.length nc (recT names d kd n ns ks 8 i) (treeR names d (kidR (.mk kd n ns ks) i)) (putT nm (treeR names d (kidR (.mk kd n ns ks) i)) (recT names d kd n ns ks 8 i)) (kidR (.mk kd n ns ks) i)) (by kernel_rfl) ?_ ?_ ?_
          · exact ⟨by simp, Closed.start _, fun q => match q with
              | 0 => .agg #[.int .i64 tk, .string tn, .slice tan tln tcn, .slice tak tlk tck]
              | 1 => .string ⟨(nm : List UInt8).toArray⟩
              | 2 => .agg #[.int .i64 kd, .int .i64 n, .slice (some ⟨gi, oi, none⟩) ns.length cn, .slice ak ks.length ck]
              | 3 => .int .i64 i
              | 5 => .int .i64 D
              | 6 => .int .i64 d
              | 7 => .slice na names.length nc
              | _ => undef, Fr.start _ _ _, ⟨rfl, rfl, rfl, rfl, rfl, rfl, rfl⟩, by simp only [rep_getD]; exact TM.start (by omega) (H.out.below.trans (HB5.out.mono (by omega))) ((HB5.out.block _ (by omega)).trans H.out.raw) ((HB5.out.block _ (by omega)).trans H.out.zer) ((HB5.out.block _ (by omega)).trans HTT.out) (HVT.out.growN HB5.out)⟩
          · intro listed b v q hJ hi
            obtain ⟨hsz, hC, vals, hF, hV, hM⟩ := hJ
            obtain ⟨hl1, hi11⟩ := not_up hsz hi
            obtain ⟨_, o, ho, hdeps⟩ := mem_ready.1 hi
            have hi11 : q < 11 := hi11
            have h10 : listed.getD 10 false = true → listed.getD 9 false = true := fun h => hC 10 _ rfl h ⟨9, .data⟩ (by simp) rfl
            have h9 : listed.getD 9 false = true → listed.getD 8 false = true := fun h => hC 9 _ rfl h ⟨8, .data⟩ (by simp) rfl
            have h90 : listed.getD 9 false = true → listed.getD 0 false = true := fun h => hC 9 _ rfl h ⟨0, .data⟩ (by simp) rfl
            have h8 : listed.getD 8 false = true → listed.getD 4 false = true := fun h => hC 8 _ rfl h ⟨4, .data⟩ (by simp) rfl
            obtain rfl | rfl | rfl | rfl | rfl | rfl | rfl | rfl | rfl | rfl | rfl : q = 0 ∨ q = 1 ∨ q = 2 ∨ q = 3 ∨ q = 5 ∨ q = 6 ∨ q = 7 ∨ q = 4 ∨ q = 8 ∨ q = 9 ∨ q = 10 := by omega
            · cases ho
              have l10 : listed.getD 10 false = false := by
                cases hh : listed.getD 10 false
                · rfl
                · have := h90 (h10 hh); rw [hl1] at this; cases this
              obtain ⟨⟨z0, z1, z2, z3⟩, _⟩ := four_blk (hM.told l10)
              have e := hF.old_is 8 (by rfl) rfl
              refine TJ.quiet hsz hC hi hF hV hM (Slots.of (by rfl)) rfl rfl (by decide) ?_
              rw [hV.v0]
              simp [execOp, go_sem, e, z0, z1, z2, z3]
            · cases ho
              have e := hF.old_is 10 (by rfl) rfl
              refine TJ.quiet hsz hC hi hF hV hM (Slots.of (by rfl)) rfl rfl (by decide) ?_
              rw [hV.v1]
              simp [execOp, go_sem, e]
            · cases ho
              obtain ⟨⟨z0, z1, z2, z3⟩, _⟩ := four_blk hM.raw
              have e := hF.old_is 3 (by rfl) rfl
              refine TJ.quiet hsz hC hi hF hV hM (Slots.of (by rfl)) rfl rfl (by decide) ?_
              rw [hV.v2]
              simp [execOp, go_sem, e, z0, z1, z2, z3]
            · cases ho
              have e := hF.old_is 9 (by rfl) rfl
              refine TJ.quiet hsz hC hi hF hV hM (Slots.of (by rfl)) rfl rfl (by decide) ?_
              rw [hV.v3]
              simp [execOp, go_sem, e]
            · cases ho
              have e := hF.old_is 1 (by rfl) rfl
              refine TJ.quiet hsz hC hi hF hV hM (Slots.of (by rfl)) rfl rfl (by decide) ?_
              rw [hV.v5]
              simp [execOp, go_sem, e]
            · cases ho
              have e := hF.up 5 112 rfl (hdeps ⟨5, .data⟩ (by simp) rfl)
              rw [hV.v5] at e
              refine TJ.quiet hsz hC hi hF hV hM (Slots.of (by rfl)) rfl rfl (by decide) ?_
              rw [hV.v6]
              simp [execOp, go_sem, e, hdw]
            · cases ho
              have e := hF.old_is 2 (by rfl) rfl
              refine TJ.quiet hsz hC hi hF hV hM (Slots.of (by rfl)) rfl rfl (by decide) ?_
              rw [hV.v7]
              simp [execOp, go_sem, e]
            · cases ho
              have l8 : listed.getD 8 false = false := by
                cases hh : listed.getD 8 false
                · rfl
                · have := h8 hh; rw [hl1] at this; cases this
              have l9 : listed.getD 9 false = false := by
                cases hh : listed.getD 9 false
                · rfl
                · have := h9 hh; rw [l8] at this; cases this
              have l10 : listed.getD 10 false = false := by
                cases hh : listed.getD 10 false
                · rfl
                · have := h10 hh; rw [l9] at this; cases this
              have e := hF.up 2 109 rfl (hdeps ⟨2, .data⟩ (by simp) rfl)
              rw [hV.v2] at e
              have f := hF.up 3 110 rfl (hdeps ⟨3, .data⟩ (by simp) rfl)
              rw [hV.v3] at f
              rw [hl1, l8, l9, l10] at hM
              refine wpOp_call (f := 51) (args := #[.agg #[.int .i64 kd, .int .i64 n, .slice (some ⟨gi, oi, none⟩) ns.length cn, .slice ak ks.length ck], .int .i64 i]) rfl rfl (by simp [execOp, go_sem, e, f]) (kid_any (.mk kd n ns ks) ⟨kd, n, (some ⟨gi, oi, none⟩), ns.length, cn, ak, ks.length, ck⟩ i v (by omega) (HV.out.later hM.below)) ?_
              rintro e w' ⟨kc, rfl, hk, hb⟩
              refine ⟨_, rfl, ?_⟩
              obtain ⟨vals', hvals⟩ : ∃ vals' : Nat → Value, vals' = fun q => if q = 4 then (Value.agg #[.int .i64 kc.k, .int .i64 kc.n, .slice kc.an kc.ln kc.cn, .slice kc.ak kc.lk kc.ck]) else vals q := ⟨_, rfl⟩
              have hF' : Fr _ _ vals' listed b := hF.congr (fun i h => by rw [hvals]; exact if_neg (by rintro rfl; rw [hl1] at h; cases h))
              have hV' : TV D d i ⟨tk, tn, tan, tln, tcn, tak, tlk, tck⟩ nm ⟨kd, n, (some ⟨gi, oi, none⟩), ns.length, cn, ak, ks.length, ck⟩ na names.length nc vals' := by rw [hvals]; exact ⟨hV.v0, hV.v1, hV.v2, hV.v3, hV.v5, hV.v6, hV.v7⟩
              have hn : vals' 4 = (Value.agg #[.int .i64 kc.k, .int .i64 kc.n, .slice kc.an kc.ln kc.cn, .slice kc.ak kc.lk kc.ck]) := by rw [hvals]; rfl
              refine ⟨by simpa using hsz, hC.put hi, vals', hn ▸ hF'.put (Slots.of (by rfl)) hsz rfl, hV', ?_⟩
              rw [getD_setE (i := 4) (by simp [hsz]), getD_setN (show 4 ≠ 8 by decide), getD_setN (show 4 ≠ 9 by decide), getD_setN (show 4 ≠ 10 by decide), l8, l9, l10]
              exact hM.kidded hn hk hb
            · cases ho
              have l4 := hdeps ⟨4, .data⟩ (by simp) rfl
              have l9 : listed.getD 9 false = false := by
                cases hh : listed.getD 9 false
                · rfl
                · have := h9 hh; rw [hl1] at this; cases this
              have l10 : listed.getD 10 false = false := by
                cases hh : listed.getD 10 false
                · rfl
                · have := h10 hh; rw [l9] at this; cases this
              rw [l4, hl1, l9, l10] at hM
              obtain ⟨kc, hkc, hkv⟩ := hM.kid rfl rfl
              have e := hF.up 4 111 rfl l4
              rw [hkc] at e
              have f := hF.up 6 113 rfl (hdeps ⟨6, .data⟩ (by simp) rfl)
              rw [hV.v6] at f
              have g := hF.up 7 114 rfl (hdeps ⟨7, .data⟩ (by simp) rfl)
              rw [hV.v7] at g
              have CT := HIH.out _ kc names na nc v hkv (HNM.out.up hM.below) hnl
              refine wpOp_call (f := 22) (args := #[.agg #[.int .i64 kc.k, .int .i64 kc.n, .slice kc.an kc.ln kc.cn, .slice kc.ak kc.lk kc.ck], .int .i64 d, .slice na names.length nc]) rfl rfl (by simp [execOp, go_sem, e, f, g]) CT ?_
              rintro e w' ⟨xc, rfl, hk, hb⟩
              refine ⟨_, rfl, ?_⟩
              obtain ⟨vals', hvals⟩ : ∃ vals' : Nat → Value, vals' = fun q => if q = 8 then (Value.agg #[.int .i64 xc.k, .string xc.n, .slice xc.an xc.ln xc.cn, .slice xc.ak xc.lk xc.ck]) else vals q := ⟨_, rfl⟩
              have hF' : Fr _ _ vals' listed b := hF.congr (fun i h => by rw [hvals]; exact if_neg (by rintro rfl; rw [hl1] at h; cases h))
              have hV' : TV D d i ⟨tk, tn, tan, tln, tcn, tak, tlk, tck⟩ nm ⟨kd, n, (some ⟨gi, oi, none⟩), ns.length, cn, ak, ks.length, ck⟩ na names.length nc vals' := by rw [hvals]; exact ⟨hV.v0, hV.v1, hV.v2, hV.v3, hV.v5, hV.v6, hV.v7⟩
              have hn : vals' 8 = (Value.agg #[.int .i64 xc.k, .string xc.n, .slice xc.an xc.ln xc.cn, .slice xc.ak xc.lk xc.ck]) := by rw [hvals]; rfl
              refine ⟨by simpa using hsz, hC.put hi, vals', hn ▸ hF'.put (Slots.of (by rfl)) hsz rfl, hV', ?_⟩
              rw [getD_setE (i := 8) (by simp [hsz]), getD_setN (show 8 ≠ 4 by decide), getD_setN (show 8 ≠ 9 by decide), getD_setN (show 8 ≠ 10 by decide), l4, l9, l10]
              exact hM.treed hn hk hb
            · cases ho
              have l8 := hdeps ⟨8, .data⟩ (by simp) rfl
              have l4 := h8 l8
              have l10 : listed.getD 10 false = false := by
                cases hh : listed.getD 10 false
                · rfl
                · have := h10 hh; rw [hl1] at this; cases this
              rw [l4, l8, hl1, l10] at hM
              obtain ⟨xc, hxc, hxv⟩ := hM.tree rfl rfl
              have hov := hM.old rfl
              have e := hF.up 0 107 rfl (hdeps ⟨0, .data⟩ (by simp) rfl)
              rw [hV.v0] at e
              have f := hF.up 1 108 rfl (hdeps ⟨1, .data⟩ (by simp) rfl)
              rw [hV.v1] at f
              have g := hF.up 8 115 rfl l8
              rw [hxc] at g
              obtain ⟨ms, us, hrf, hr1, hr2⟩ := recT_form names d kd n ns ks 8 i
              rw [hrf] at hov
              have CT := put_any 8 [] ms us nm _ ⟨tk, tn, tan, tln, tcn, tak, tlk, tck⟩ xc (w.heap.size + 3) v hM.size hov hxv hr1 (by omega) HCT.out
              refine wpOp_call (f := 53) (args := #[.agg #[.int .i64 tk, .string tn, .slice tan tln tcn, .slice tak tlk tck], .string ⟨(nm : List UInt8).toArray⟩, .agg #[.int .i64 xc.k, .string xc.n, .slice xc.an xc.ln xc.cn, .slice xc.ak xc.lk xc.ck]]) rfl rfl (by simp [execOp, go_sem, e, f, g]) CT ?_
              rintro e w' ⟨pc, rfl, hk, hcap, hb⟩
              rw [← hrf] at hk
              refine ⟨_, rfl, ?_⟩
              obtain ⟨vals', hvals⟩ : ∃ vals' : Nat → Value, vals' = fun q => if q = 9 then (Value.agg #[.int .i64 pc.k, .string pc.n, .slice pc.an pc.ln pc.cn, .slice pc.ak pc.lk pc.ck]) else vals q := ⟨_, rfl⟩
              have hF' : Fr _ _ vals' listed b := hF.congr (fun i h => by rw [hvals]; exact if_neg (by rintro rfl; rw [hl1] at h; cases h))
              have hV' : TV D d i ⟨tk, tn, tan, tln, tcn, tak, tlk, tck⟩ nm ⟨kd, n, (some ⟨gi, oi, none⟩), ns.length, cn, ak, ks.length, ck⟩ na names.length nc vals' := by rw [hvals]; exact ⟨hV.v0, hV.v1, hV.v2, hV.v3, hV.v5, hV.v6, hV.v7⟩
              have hn : vals' 9 = (Value.agg #[.int .i64 pc.k, .string pc.n, .slice pc.an pc.ln pc.cn, .slice pc.ak pc.lk pc.ck]) := by rw [hvals]; rfl
              refine ⟨by simpa using hsz, hC.put hi, vals', hn ▸ hF'.put (Slots.of (by rfl)) hsz rfl, hV', ?_⟩
              rw [getD_setE (i := 9) (by simp [hsz]), getD_setN (show 9 ≠ 4 by decide), getD_setN (show 9 ≠ 8 by decide), getD_setN (show 9 ≠ 10 by decide), l4, l8, l10]
              exact hM.putted hn hk hcap hb
            · cases ho
              have l9 := hdeps ⟨9, .data⟩ (by simp) rfl
              have l8 := h9 l9
              have l4 := h8 l8
              rw [l4, l8, l9, hl1] at hM
              obtain ⟨⟨z0, z1, z2, z3⟩, ⟨y0, y1, y2, y3⟩⟩ := four_blk (hM.told rfl)
              obtain ⟨pc, hpc, _⟩ := hM.put rfl
              have e := hF.old_is 8 (by rfl) rfl
              have f := hF.up 9 116 rfl l9
              rw [hpc] at f
              refine wpOp_wp rfl rfl ?_
              unfold Oper.wp Oper.upon
              simp [execOp, go_sem, e, f, z0, z1, z2, z3, y0, y1, y2, y3]
              refine ⟨by simpa using hsz, hC.put hi, vals, hF.put (i := 10) (Slots.of (by rfl)) hsz rfl, hV, ?_⟩
              rw [getD_setE (i := 10) (by simp [hsz]), getD_setN (show 10 ≠ 4 by decide), getD_setN (show 10 ≠ 8 by decide), getD_setN (show 10 ≠ 9 by decide), l4, l8, l9]
              exact hM.stored hpc
          · intro listed b v hJ hr
            obtain ⟨hsz, hC, vals, hF, hV, hM⟩ := hJ
            have hall := all_upB (by rfl) hsz hr
            have hb : b = putAll _ vals _ 11 := hF.done (Slots.of (by rfl)) hall
            rw [hall 4 (by decide), hall 8 (by decide), hall 9 (by decide), hall 10 (by decide)] at hM
            subst hb
            simp only [putAll, hV.v0, hV.v1, hV.v2, hV.v3, hV.v5, hV.v6, hV.v7]
            simp [dstOf]
            obtain ⟨pc, _, hk, hcap, hat⟩ := hM.put rfl
            have HM := Lib.hid hM; have HK := Lib.hid hk; have HCAP := Lib.hid hcap; have HAT := Lib.hid (hat rfl)
            clear hM hk hcap hat hF hV hC hall hr hsz
            go_wp2
            go_roundw
            case rel => exact ⟨i + 1, by go_num, by rw [fldM, if_pos rfl]; omega, HM.out.size, HM.out.below, HM.out.raw, HM.out.zer, pc, HAT.out, by rw [recT_succ, HNE.out]; exact HK.out, HCAP.out⟩
            case measure => simp [intOf]; omega
        · have hiz : (i : Int) < (ns.length : Int) := by omega
          have hi4z : ¬ (i : Int) < 4 := by omega
          have hi0 : ((i : Int) == 0) = false := by rw [beq_eq_false_iff_ne]; omega
          have hend : recT names d kd n ns ks 8 i = recT names d kd n ns ks 8 (fldM 8 ns) := by rw [show i = fldM 8 ns by unfold fldM at hle ⊢; simp at hle ⊢; omega]
          have HL := Lib.hid hend
          clear hend
          obtain ⟨⟨q0, q1, q2, q3⟩, ⟨x0, x1, x2, x3⟩⟩ := four_blk H.out.zer
          obtain ⟨⟨v0, v1, v2, v3⟩, _⟩ := four_blk (put4_at H.out.zer ⟨tk, tn, tan, tln, tcn, tak, tlk, tck⟩)
          have hPO := put4_only wr (w.heap.size + 1) ⟨tk, tn, tan, tln, tcn, tak, tlk, tck⟩
          have HBL := Lib.hid (H.out.below.trans (hPO.below (by omega) (by omega)))
          have HF := Lib.hid ((HVT.out.past (a := w.heap.size) (by omega) hPO (by omega)))
          clear hPO
          have hzw : w.heap.size + 1 < wr.heap.size := (by omega)
          unfold put4 at v0 v1 v2 v3
          go_wp2
          refine bodyPost_ret (v := .agg #[.int .i64 tk, .string tn, .slice tan tln tcn, .slice tak tlk tck]) (by simp [results, Try.results22, go_sem, v0, v1, v2, v3]) rfl ?_
          have hF := HF.out
          rw [HL.out] at hF
          exact ⟨⟨tk, tn, tan, tln, tcn, tak, tlk, tck⟩, rfl, hF, HBL.out⟩
      · by_cases hi0n : i = 0
        · have hiz : ¬ (i : Int) < (ns.length : Int) := by omega
          have hi0 : ((i : Int) == 0) = true := by rw [beq_iff_eq]; omega
          have hnm' : fldN ns i = [117] := by unfold fldN; rw [List.getElem?_eq_none (by omega)]
          have HNE := Lib.hid hnm'
          clear hnm'
          go_wp2
          refine wp_region_by (TJ w w.heap.size D d i ⟨tk, tn, tan, tln, tcn, tak, tlk, tck⟩ [117] ⟨kd, n, an, ns.length, cn, ak, ks.length, ck⟩ na names.length nc (recT names d kd n ns ks 8 i) (treeR names d (kidR (.mk kd n ns ks) i)) (putT [117] (treeR names d (kidR (.mk kd n ns ks) i)) (recT names d kd n ns ks 8 i)) (kidR (.mk kd n ns ks) i)) (by kernel_rfl) ?_ ?_ ?_
          · exact ⟨by simp, Closed.start _, fun q => match q with
              | 0 => .agg #[.int .i64 tk, .string tn, .slice tan tln tcn, .slice tak tlk tck]
              | 1 => .string ⟨([117] : List UInt8).toArray⟩
              | 2 => .agg #[.int .i64 kd, .int .i64 n, .slice an ns.length cn, .slice ak ks.length ck]
              | 3 => .int .i64 i
              | 5 => .int .i64 D
              | 6 => .int .i64 d
              | 7 => .slice na names.length nc
              | _ => undef, Fr.start _ _ _, ⟨rfl, rfl, rfl, rfl, rfl, rfl, rfl⟩, by simp only [rep_getD]; exact TM.start (by omega) H.out.below H.out.raw H.out.zer HTT.out HVT.out⟩
          · intro listed b v q hJ hi
            obtain ⟨hsz, hC, vals, hF, hV, hM⟩ := hJ
            obtain ⟨hl1, hi11⟩ := not_up hsz hi
            obtain ⟨_, o, ho, hdeps⟩ := mem_ready.1 hi
            have hi11 : q < 11 := hi11
            have h10 : listed.getD 10 false = true → listed.getD 9 false = true := fun h => hC 10 _ rfl h ⟨9, .data⟩ (by simp) rfl
            have h9 : listed.getD 9 false = true → listed.getD 8 false = true := fun h => hC 9 _ rfl h ⟨8, .data⟩ (by simp) rfl
            have h90 : listed.getD 9 false = true → listed.getD 0 false = true := fun h => hC 9 _ rfl h ⟨0, .data⟩ (by simp) rfl
            have h8 : listed.getD 8 false = true → listed.getD 4 false = true := fun h => hC 8 _ rfl h ⟨4, .data⟩ (by simp) rfl
            obtain rfl | rfl | rfl | rfl | rfl | rfl | rfl | rfl | rfl | rfl | rfl : q = 0 ∨ q = 1 ∨ q = 2 ∨ q = 3 ∨ q = 5 ∨ q = 6 ∨ q = 7 ∨ q = 4 ∨ q = 8 ∨ q = 9 ∨ q = 10 := by omega
            · cases ho
              have l10 : listed.getD 10 false = false := by
                cases hh : listed.getD 10 false
                · rfl
                · have := h90 (h10 hh); rw [hl1] at this; cases this
              obtain ⟨⟨z0, z1, z2, z3⟩, _⟩ := four_blk (hM.told l10)
              have e := hF.old_is 8 (by rfl) rfl
              refine TJ.quiet hsz hC hi hF hV hM (Slots.of (by rfl)) rfl rfl (by decide) ?_
              rw [hV.v0]
              simp [execOp, go_sem, e, z0, z1, z2, z3]
            · cases ho
              have e := hF.old_is 10 (by rfl) rfl
              refine TJ.quiet hsz hC hi hF hV hM (Slots.of (by rfl)) rfl rfl (by decide) ?_
              rw [hV.v1]
              simp [execOp, go_sem, e]
            · cases ho
              obtain ⟨⟨z0, z1, z2, z3⟩, _⟩ := four_blk hM.raw
              have e := hF.old_is 3 (by rfl) rfl
              refine TJ.quiet hsz hC hi hF hV hM (Slots.of (by rfl)) rfl rfl (by decide) ?_
              rw [hV.v2]
              simp [execOp, go_sem, e, z0, z1, z2, z3]
            · cases ho
              have e := hF.old_is 9 (by rfl) rfl
              refine TJ.quiet hsz hC hi hF hV hM (Slots.of (by rfl)) rfl rfl (by decide) ?_
              rw [hV.v3]
              simp [execOp, go_sem, e]; omega
            · cases ho
              have e := hF.old_is 1 (by rfl) rfl
              refine TJ.quiet hsz hC hi hF hV hM (Slots.of (by rfl)) rfl rfl (by decide) ?_
              rw [hV.v5]
              simp [execOp, go_sem, e]
            · cases ho
              have e := hF.up 5 112 rfl (hdeps ⟨5, .data⟩ (by simp) rfl)
              rw [hV.v5] at e
              refine TJ.quiet hsz hC hi hF hV hM (Slots.of (by rfl)) rfl rfl (by decide) ?_
              rw [hV.v6]
              simp [execOp, go_sem, e, hdw]
            · cases ho
              have e := hF.old_is 2 (by rfl) rfl
              refine TJ.quiet hsz hC hi hF hV hM (Slots.of (by rfl)) rfl rfl (by decide) ?_
              rw [hV.v7]
              simp [execOp, go_sem, e]
            · cases ho
              have l8 : listed.getD 8 false = false := by
                cases hh : listed.getD 8 false
                · rfl
                · have := h8 hh; rw [hl1] at this; cases this
              have l9 : listed.getD 9 false = false := by
                cases hh : listed.getD 9 false
                · rfl
                · have := h9 hh; rw [l8] at this; cases this
              have l10 : listed.getD 10 false = false := by
                cases hh : listed.getD 10 false
                · rfl
                · have := h10 hh; rw [l9] at this; cases this
              have e := hF.up 2 109 rfl (hdeps ⟨2, .data⟩ (by simp) rfl)
              rw [hV.v2] at e
              have f := hF.up 3 110 rfl (hdeps ⟨3, .data⟩ (by simp) rfl)
              rw [hV.v3] at f
              rw [hl1, l8, l9, l10] at hM
              refine wpOp_call (f := 51) (args := #[.agg #[.int .i64 kd, .int .i64 n, .slice an ns.length cn, .slice ak ks.length ck], .int .i64 i]) rfl rfl (by simp [execOp, go_sem, e, f]) (kid_any (.mk kd n ns ks) ⟨kd, n, an, ns.length, cn, ak, ks.length, ck⟩ i v (by omega) (HV.out.later hM.below)) ?_
              rintro e w' ⟨kc, rfl, hk, hb⟩
              refine ⟨_, rfl, ?_⟩
              obtain ⟨vals', hvals⟩ : ∃ vals' : Nat → Value, vals' = fun q => if q = 4 then (Value.agg #[.int .i64 kc.k, .int .i64 kc.n, .slice kc.an kc.ln kc.cn, .slice kc.ak kc.lk kc.ck]) else vals q := ⟨_, rfl⟩
              have hF' : Fr _ _ vals' listed b := hF.congr (fun i h => by rw [hvals]; exact if_neg (by rintro rfl; rw [hl1] at h; cases h))
              have hV' : TV D d i ⟨tk, tn, tan, tln, tcn, tak, tlk, tck⟩ [117] ⟨kd, n, an, ns.length, cn, ak, ks.length, ck⟩ na names.length nc vals' := by rw [hvals]; exact ⟨hV.v0, hV.v1, hV.v2, hV.v3, hV.v5, hV.v6, hV.v7⟩
              have hn : vals' 4 = (Value.agg #[.int .i64 kc.k, .int .i64 kc.n, .slice kc.an kc.ln kc.cn, .slice kc.ak kc.lk kc.ck]) := by rw [hvals]; rfl
              refine ⟨by simpa using hsz, hC.put hi, vals', hn ▸ hF'.put (Slots.of (by rfl)) hsz rfl, hV', ?_⟩
              rw [getD_setE (i := 4) (by simp [hsz]), getD_setN (show 4 ≠ 8 by decide), getD_setN (show 4 ≠ 9 by decide), getD_setN (show 4 ≠ 10 by decide), l8, l9, l10]
              exact hM.kidded hn hk hb
            · cases ho
              have l4 := hdeps ⟨4, .data⟩ (by simp) rfl
              have l9 : listed.getD 9 false = false := by
                cases hh : listed.getD 9 false
                · rfl
                · have := h9 hh; rw [hl1] at this; cases this
              have l10 : listed.getD 10 false = false := by
                cases hh : listed.getD 10 false
                · rfl
                · have := h10 hh; rw [l9] at this; cases this
              rw [l4, hl1, l9, l10] at hM
              obtain ⟨kc, hkc, hkv⟩ := hM.kid rfl rfl
              have e := hF.up 4 111 rfl l4
              rw [hkc] at e
              have f := hF.up 6 113 rfl (hdeps ⟨6, .data⟩ (by simp) rfl)
              rw [hV.v6] at f
              have g := hF.up 7 114 rfl (hdeps ⟨7, .data⟩ (by simp) rfl)
              rw [hV.v7] at g
              have CT := HIH.out _ kc names na nc v hkv (HNM.out.up hM.below) hnl
              refine wpOp_call (f := 22) (args := #[.agg #[.int .i64 kc.k, .int .i64 kc.n, .slice kc.an kc.ln kc.cn, .slice kc.ak kc.lk kc.ck], .int .i64 d, .slice na names.length nc]) rfl rfl (by simp [execOp, go_sem, e, f, g]) CT ?_
              rintro e w' ⟨xc, rfl, hk, hb⟩
              refine ⟨_, rfl, ?_⟩
              obtain ⟨vals', hvals⟩ : ∃ vals' : Nat → Value, vals' = fun q => if q = 8 then (Value.agg #[.int .i64 xc.k, .string xc.n, .slice xc.an xc.ln xc.cn, .slice xc.ak xc.lk xc.ck]) else vals q := ⟨_, rfl⟩
              have hF' : Fr _ _ vals' listed b := hF.congr (fun i h => by rw [hvals]; exact if_neg (by rintro rfl; rw [hl1] at h; cases h))
              have hV' : TV D d i ⟨tk, tn, tan, tln, tcn, tak, tlk, tck⟩ [117] ⟨kd, n, an, ns.length, cn, ak, ks.length, ck⟩ na names.length nc vals' := by rw [hvals]; exact ⟨hV.v0, hV.v1, hV.v2, hV.v3, hV.v5, hV.v6, hV.v7⟩
              have hn : vals' 8 = (Value.agg #[.int .i64 xc.k, .string xc.n, .slice xc.an xc.ln xc.cn, .slice xc.ak xc.lk xc.ck]) := by rw [hvals]; rfl
              refine ⟨by simpa using hsz, hC.put hi, vals', hn ▸ hF'.put (Slots.of (by rfl)) hsz rfl, hV', ?_⟩
              rw [getD_setE (i := 8) (by simp [hsz]), getD_setN (show 8 ≠ 4 by decide), getD_setN (show 8 ≠ 9 by decide), getD_setN (show 8 ≠ 10 by decide), l4, l9, l10]
              exact hM.treed hn hk hb
            · cases ho
              have l8 := hdeps ⟨8, .data⟩ (by simp) rfl
              have l4 := h8 l8
              have l10 : listed.getD 10 false = false := by
                cases hh : listed.getD 10 false
                · rfl
                · have := h10 hh; rw [hl1] at this; cases this
              rw [l4, l8, hl1, l10] at hM
              obtain ⟨xc, hxc, hxv⟩ := hM.tree rfl rfl
              have hov := hM.old rfl
              have e := hF.up 0 107 rfl (hdeps ⟨0, .data⟩ (by simp) rfl)
              rw [hV.v0] at e
              have f := hF.up 1 108 rfl (hdeps ⟨1, .data⟩ (by simp) rfl)
              rw [hV.v1] at f
              have g := hF.up 8 115 rfl l8
              rw [hxc] at g
              obtain ⟨ms, us, hrf, hr1, hr2⟩ := recT_form names d kd n ns ks 8 i
              rw [hrf] at hov
              have CT := put_any 8 [] ms us [117] _ ⟨tk, tn, tan, tln, tcn, tak, tlk, tck⟩ xc (w.heap.size + 3) v hM.size hov hxv hr1 (by omega) HCT.out
              refine wpOp_call (f := 53) (args := #[.agg #[.int .i64 tk, .string tn, .slice tan tln tcn, .slice tak tlk tck], .string ⟨([117] : List UInt8).toArray⟩, .agg #[.int .i64 xc.k, .string xc.n, .slice xc.an xc.ln xc.cn, .slice xc.ak xc.lk xc.ck]]) rfl rfl (by simp [execOp, go_sem, e, f, g]) CT ?_
              rintro e w' ⟨pc, rfl, hk, hcap, hb⟩
              rw [← hrf] at hk
              refine ⟨_, rfl, ?_⟩
              obtain ⟨vals', hvals⟩ : ∃ vals' : Nat → Value, vals' = fun q => if q = 9 then (Value.agg #[.int .i64 pc.k, .string pc.n, .slice pc.an pc.ln pc.cn, .slice pc.ak pc.lk pc.ck]) else vals q := ⟨_, rfl⟩
              have hF' : Fr _ _ vals' listed b := hF.congr (fun i h => by rw [hvals]; exact if_neg (by rintro rfl; rw [hl1] at h; cases h))
              have hV' : TV D d i ⟨tk, tn, tan, tln, tcn, tak, tlk, tck⟩ [117] ⟨kd, n, an, ns.length, cn, ak, ks.length, ck⟩ na names.length nc vals' := by rw [hvals]; exact ⟨hV.v0, hV.v1, hV.v2, hV.v3, hV.v5, hV.v6, hV.v7⟩
              have hn : vals' 9 = (Value.agg #[.int .i64 pc.k, .string pc.n, .slice pc.an pc.ln pc.cn, .slice pc.ak pc.lk pc.ck]) := by rw [hvals]; rfl
              refine ⟨by simpa using hsz, hC.put hi, vals', hn ▸ hF'.put (Slots.of (by rfl)) hsz rfl, hV', ?_⟩
              rw [getD_setE (i := 9) (by simp [hsz]), getD_setN (show 9 ≠ 4 by decide), getD_setN (show 9 ≠ 8 by decide), getD_setN (show 9 ≠ 10 by decide), l4, l8, l10]
              exact hM.putted hn hk hcap hb
            · cases ho
              have l9 := hdeps ⟨9, .data⟩ (by simp) rfl
              have l8 := h9 l9
              have l4 := h8 l8
              rw [l4, l8, l9, hl1] at hM
              obtain ⟨⟨z0, z1, z2, z3⟩, ⟨y0, y1, y2, y3⟩⟩ := four_blk (hM.told rfl)
              obtain ⟨pc, hpc, _⟩ := hM.put rfl
              have e := hF.old_is 8 (by rfl) rfl
              have f := hF.up 9 116 rfl l9
              rw [hpc] at f
              refine wpOp_wp rfl rfl ?_
              unfold Oper.wp Oper.upon
              simp [execOp, go_sem, e, f, z0, z1, z2, z3, y0, y1, y2, y3]
              refine ⟨by simpa using hsz, hC.put hi, vals, hF.put (i := 10) (Slots.of (by rfl)) hsz rfl, hV, ?_⟩
              rw [getD_setE (i := 10) (by simp [hsz]), getD_setN (show 10 ≠ 4 by decide), getD_setN (show 10 ≠ 8 by decide), getD_setN (show 10 ≠ 9 by decide), l4, l8, l9]
              exact hM.stored hpc
          · intro listed b v hJ hr
            obtain ⟨hsz, hC, vals, hF, hV, hM⟩ := hJ
            have hall := all_upB (by rfl) hsz hr
            have hb : b = putAll _ vals _ 11 := hF.done (Slots.of (by rfl)) hall
            rw [hall 4 (by decide), hall 8 (by decide), hall 9 (by decide), hall 10 (by decide)] at hM
            subst hb
            simp only [putAll, hV.v0, hV.v1, hV.v2, hV.v3, hV.v5, hV.v6, hV.v7]
            simp [dstOf]
            obtain ⟨pc, _, hk, hcap, hat⟩ := hM.put rfl
            have HM := Lib.hid hM; have HK := Lib.hid hk; have HCAP := Lib.hid hcap; have HAT := Lib.hid (hat rfl)
            clear hM hk hcap hat hF hV hC hall hr hsz
            go_wp2
            go_roundw
            case rel => exact ⟨i + 1, by go_num, by rw [fldM, if_pos rfl]; omega, HM.out.size, HM.out.below, HM.out.raw, HM.out.zer, pc, HAT.out, by rw [recT_succ, HNE.out]; exact HK.out, HCAP.out⟩
            case measure => simp [intOf]; omega
        · have hiz : ¬ (i : Int) < (ns.length : Int) := by omega
          have hi0 : ((i : Int) == 0) = false := by rw [beq_eq_false_iff_ne]; omega
          have hend : recT names d kd n ns ks 8 i = recT names d kd n ns ks 8 (fldM 8 ns) := by rw [show i = fldM 8 ns by unfold fldM at hle ⊢; simp at hle ⊢; omega]
          have HL := Lib.hid hend
          clear hend
          obtain ⟨⟨q0, q1, q2, q3⟩, ⟨x0, x1, x2, x3⟩⟩ := four_blk H.out.zer
          obtain ⟨⟨v0, v1, v2, v3⟩, _⟩ := four_blk (put4_at H.out.zer ⟨tk, tn, tan, tln, tcn, tak, tlk, tck⟩)
          have hPO := put4_only wr (w.heap.size + 1) ⟨tk, tn, tan, tln, tcn, tak, tlk, tck⟩
          have HBL := Lib.hid (H.out.below.trans (hPO.below (by omega) (by omega)))
          have HF := Lib.hid ((HVT.out.past (a := w.heap.size) (by omega) hPO (by omega)))
          clear hPO
          have hzw : w.heap.size + 1 < wr.heap.size := (by omega)
          unfold put4 at v0 v1 v2 v3
          go_wp2
          refine bodyPost_ret (v := .agg #[.int .i64 tk, .string tn, .slice tan tln tcn, .slice tak tlk tck]) (by simp [results, Try.results22, go_sem, v0, v1, v2, v3]) rfl ?_
          have hF := HF.out
          rw [HL.out] at hF
          exact ⟨⟨tk, tn, tan, tln, tcn, tak, tlk, tck⟩, rfl, hF, HBL.out⟩
end Sp
end Go.Proofs.Ytjjpjkkaogfoaaa

namespace Go.Proofs.Ytjjpjkkaogfoaaa
open Go.RowKit
namespace Sp
open Sc

theorem Tree_any : ∀ d : Nat, d ≤ 1000 → TreeC d
  | d, hd => by
    intro r c names na nc w hV hnm hnl
    obtain ⟨kd, n, ns, ks⟩ := r
    obtain h | h | h | h | h | h | h | h | h : kd % 9 = 0 ∨ kd % 9 = 1 ∨ kd % 9 = 2 ∨ kd % 9 = 3 ∨ kd % 9 = 4 ∨ kd % 9 = 5 ∨ kd % 9 = 6 ∨ kd % 9 = 7 ∨ kd % 9 = 8 := by omega
    · by_cases h1 : (d : Int) ≤ 1
      · exact tree_0a d hd kd n ns ks c names na nc w hV hnl h h1
      · exact tree_0b d hd kd n ns ks c names na nc w hV hnl h h1
    · by_cases h1 : (d : Int) ≤ 1
      · exact tree_1a d hd kd n ns ks c names na nc w hV hnl h h1
      · exact tree_1b d hd kd n ns ks c names na nc w hV hnl h h1
    · by_cases h1 : (d : Int) ≤ 1
      · exact tree_2a d hd kd n ns ks c names na nc w hV hnl h h1
      · exact tree_2b d hd kd n ns ks c names na nc w hV hnl h h1
    · by_cases h1 : (d : Int) ≤ 1
      · exact tree_3 d hd kd n ns ks c names na nc w hV hnl h h1
      · have ih := Tree_any (d - 1) (by omega)
        exact tree_3k d (d - 1) (by omega) ih (by omega) (by omega) kd n ns ks c names na nc w hV hnl hnm h
    · by_cases h1 : (d : Int) ≤ 1
      · exact tree_4 d hd kd n ns ks c names na nc w hV hnl h h1
      · have ih := Tree_any (d - 1) (by omega)
        exact tree_4k d (d - 1) (by omega) ih (by omega) (by omega) kd n ns ks c names na nc w hV hnl hnm h
    · by_cases h1 : (d : Int) ≤ 1
      · exact tree_5 d hd kd n ns ks c names na nc w hV hnl h h1
      · have ih := Tree_any (d - 1) (by omega)
        by_cases h6 : (treeR names (d - 1) (kidR (.mk kd n ns ks) 0)).kind = 6
        · exact tree_5y d (d - 1) (by omega) ih (by omega) (by omega) kd n ns ks c names na nc w hV hnl hnm h h6
        · exact tree_5n d (d - 1) (by omega) ih (by omega) (by omega) kd n ns ks c names na nc w hV hnl hnm h h6
    · by_cases h1 : (d : Int) ≤ 1
      · exact tree_6 d hd kd n ns ks c names na nc w hV hnl h h1
      · have ih := Tree_any (d - 1) (by omega)
        exact tree_6r d (d - 1) (by omega) ih (by omega) (by omega) kd n ns ks c names na nc w hV hnl hnm h
    · by_cases h1 : (d : Int) ≤ 1
      · exact tree_7 d hd kd n ns ks c names na nc w hV hnl h h1
      · have ih := Tree_any (d - 1) (by omega)
        exact tree_7r d (d - 1) (by omega) ih (by omega) (by omega) kd n ns ks c names na nc w hV hnl hnm h
    · by_cases h0 : names = []
      · exact tree_8n d hd kd n ns ks c names na nc w hV hnl h h0
      · by_cases h1 : (d : Int) ≤ 1
        · exact tree_8a d hd kd n ns ks c names na nc w hV hnl hnm h h0 h1
        · exact tree_8b d hd kd n ns ks c names na nc w hV hnl hnm h h0 h1
termination_by d => d
decreasing_by all_goals omega
end Sp
end Go.Proofs.Ytjjpjkkaogfoaaa

namespace Go.Proofs.Ytjjpjkkaogfoaaa
open Go.RowKit
namespace Sp
open Sc

def nm4 : List (List UInt8) := [[65], [66, 101, 101], [67, 97, 116], [68, 111, 103]]
def fn4 : List (List UInt8) := [[102, 97], [102, 98], [102, 99], [102, 100]]
/-- The names of the named types. -/
def namesR (types : List Rw) : List (List UInt8) := nm4.take types.length
def ntR (names : List (List UInt8)) (types : List Rw) (j : Nat) : List NT := (List.range j).map fun i => (names.getD i [], treeR names 5 (types.getD i default))
def parR (names : List (List UInt8)) (ks : List Rw) (k : Nat) : List Tz := (List.range k).map fun i => treeR names 4 (ks.getD i default)
def kidsR : Rw → List Rw | .mk _ _ _ ks => ks
def sgR (names : List (List UInt8)) (sigs : List Rw) (i : Nat) : Sg := ⟨fn4.getD i [], parR names (kidsR (sigs.getD i default)) (min (kidsR (sigs.getD i default)).length 3), treeR names 4 (sigs.getD i default)⟩
def sgsR (names : List (List UInt8)) (sigs : List Rw) (j : Nat) : List Sg := (List.range j).map fun i => sgR names sigs i
/-- What Schema answers. -/
def schR (main : Rw) (types sigs : List Rw) : Sz :=
  ⟨treeR (namesR types) 6 main, ntR (namesR types) types (namesR types).length, sgsR (namesR types) sigs (min sigs.length 4)⟩
theorem namesR_len (types : List Rw) : (namesR types).length = min types.length 4 := by unfold namesR nm4; simp
theorem ntR_succ (names : List (List UInt8)) (types : List Rw) (j : Nat) : ntR names types (j + 1) = ntR names types j ++ [(names.getD j [], treeR names 5 (types.getD j default))] := by simp [ntR, List.range_succ]
theorem parR_succ (names : List (List UInt8)) (ks : List Rw) (j : Nat) : parR names ks (j + 1) = parR names ks j ++ [treeR names 4 (ks.getD j default)] := by simp [parR, List.range_succ]
theorem sgsR_succ (names : List (List UInt8)) (sigs : List Rw) (j : Nat) : sgsR names sigs (j + 1) = sgsR names sigs j ++ [sgR names sigs j] := by simp [sgsR, List.range_succ]

theorem TzV.free {b : Nat} {X : List Nat} {vs : List Value} {w : World} {t : Tz} {c : C4} (h : TzV w (New b w) t c) (hX : ∀ x ∈ X, x < b) (hv : ∀ v ∈ vs, ∀ g, v.ownBlock = some g → g < b) : TzV w (Free w X vs) t c :=
  h.keep (fun g hg => ⟨hg.2, fun e => by have := hX g e; omega, fun v hm e => by have := hv v hm g e; omega⟩) (fun _ _ => rfl)

/-! ### A call whose answer is appended -/
/-- What the append leaves. -/
structure AP (v0 : World) (base : Nat) (e : TypeId) (sz n : Nat) (xs new : List Value) (xv : Value) (v : World) (v' : Value) : Prop where
  own : v.ownsRow base e sz v' (n + 1) (xs ++ new)
  grown : (v0.alloc (.cells new.toArray e)).grownBy v xv.ownBlock
  fresh : ∀ g, v'.ownBlock = some g → xv.ownBlock = some g ∨ (v0.alloc (.cells new.toArray e)).heap.size ≤ g
/-- Memory by what has come up: the answer laid, appended, stored. -/
def AMs (v0 : World) (sb off base : Nat) (e : TypeId) (sz n : Nat) (xs new : List Value) (xv bs ap : Value) (v : World) : Bool → Bool → Bool → Prop
  | false, false, false => v = v0
  | true, false, false => v = v0.alloc (.cells new.toArray e) ∧ bs = .slice (some ⟨v0.heap.size, 0, none⟩) 1 1
  | true, true, false => AP v0 base e sz n xs new xv v ap
  | true, true, true => ∃ w3, AP v0 base e sz n xs new xv w3 ap ∧ v = w3.setCell ⟨sb, off, none⟩ ap
  | _, _, _ => False
structure AM (W0 : World) (sb off base : Nat) (e : TypeId) (sz n : Nat) (xs : List Value) (enc : C4 → List Value) (x : Tz) (xv : Value) (xc : C4) (bs ap : Value) (lc lb la ls : Bool) (v : World) : Prop where
  ex : ∃ v0 : World, Below W0.heap.size W0 v0 ∧ (lc = false → v0 = W0) ∧ (lc = true → TzV v0 (New W0.heap.size v0) x xc) ∧ AMs v0 sb off base e sz n xs (enc xc) xv bs ap v lb la ls
section
variable {W0 : World} {sb off base : Nat} {e : TypeId} {sz n : Nat} {xs : List Value} {enc : C4 → List Value} {x : Tz} {xv : Value} {xc xc' : C4} {bs ap bs' ap' : Value} {lc lb la ls : Bool} {v v' : World}
theorem AM.start : AM W0 sb off base e sz n xs enc x xv xc bs ap false false false false W0 := ⟨W0, Below.refl _ _, fun _ => rfl, (fun h => by cases h), rfl⟩
theorem AM.called (h : AM W0 sb off base e sz n xs enc x xv xc bs ap false false false false v) (hb : Below v.heap.size v v') (hV : TzV v' (New v.heap.size v') x xc') : AM W0 sb off base e sz n xs enc x xv xc' bs' ap' true false false false v' := by
  obtain ⟨v0, _, h1, _, h3⟩ := h.ex
  obtain rfl := h1 rfl
  obtain rfl : v = v0 := h3
  exact ⟨v', hb, (fun h => by cases h), fun _ => hV, rfl⟩
theorem AM.laid (h : AM W0 sb off base e sz n xs enc x xv xc bs ap true false false false v) : AM W0 sb off base e sz n xs enc x xv xc (.slice (some ⟨v.heap.size, 0, none⟩) 1 1) ap' true true false false (v.alloc (.cells (enc xc).toArray e)) := by
  obtain ⟨v0, h0, _, h2, h3⟩ := h.ex
  obtain rfl : v = v0 := h3
  exact ⟨v, h0, (fun h => by cases h), h2, rfl, rfl⟩
theorem AM.bs_at (h : AM W0 sb off base e sz n xs enc x xv xc bs ap true true false false v) : ∃ v0, Below W0.heap.size W0 v0 ∧ TzV v0 (New W0.heap.size v0) x xc ∧ v = v0.alloc (.cells (enc xc).toArray e) ∧ bs = .slice (some ⟨v0.heap.size, 0, none⟩) 1 1 := by
  obtain ⟨v0, h0, _, h2, h3⟩ := h.ex
  exact ⟨v0, h0, h2 rfl, h3.1, h3.2⟩
theorem AM.appended {v0 : World} (h0 : Below W0.heap.size W0 v0) (h2 : TzV v0 (New W0.heap.size v0) x xc) (hp : AP v0 base e sz n xs (enc xc) xv v' ap') : AM W0 sb off base e sz n xs enc x xv xc bs ap' true true true false v' :=
  ⟨v0, h0, (fun h => by cases h), fun _ => h2, hp⟩
theorem AM.stored (h : AM W0 sb off base e sz n xs enc x xv xc bs ap true true true false v) : AM W0 sb off base e sz n xs enc x xv xc bs ap true true true true (v.setCell ⟨sb, off, none⟩ ap) := by
  obtain ⟨v0, h0, _, h2, h3⟩ := h.ex
  exact ⟨v0, h0, (fun h => by cases h), h2, v, h3, rfl⟩
theorem AM.row_at (h : AM W0 sb off base e sz n xs enc x xv xc bs ap true true true false v) : ∃ a c, ap = .slice a (n + 1) c := by
  obtain ⟨v0, h0, _, h2, h3⟩ := h.ex
  exact own_sliceZ (AP.own h3)
/-- Blocks that were there stay. -/
theorem AM.far (h : AM W0 sb off base e sz n xs enc x xv xc bs ap lc lb la ls v) {g : Nat} (hg : g < W0.heap.size) (hx : xv.ownBlock ≠ some g) (hn : g ≠ sb ∨ ls = false) : v.heap[g]? = W0.heap[g]? := by
  obtain ⟨v0, h0, _, _, h3⟩ := h.ex
  have hs := h0.size
  have gr : ∀ {w3 : World} {y : Value}, AP v0 base e sz n xs (enc xc) xv w3 y → w3.heap[g]? = W0.heap[g]? := fun hp => ((hp.grown.block g (by simp; omega) (fun e => hx e.symm)).trans (Below.heap_alloc _ _ _ (by omega))).trans (h0.block g hg)
  match lb, la, ls, h3 with
  | false, false, false, h => rw [show v = v0 from h]; exact h0.block g hg
  | true, false, false, h => rw [show v = _ from h.1]; exact (Below.heap_alloc _ _ _ (by omega)).trans (h0.block g hg)
  | true, true, false, h => exact gr h
  | true, true, true, ⟨w3, hp, e⟩ =>
    rcases hn with hn | hn
    · rw [e, ← gr hp]
      exact ((Only.refl sb w3).setCell off _).block g (Nat.lt_of_lt_of_le (by simp; omega) hp.grown.size) (fun e => hn (by cases e; rfl))
    · cases hn
/-- Blocks that were there stay below, while nothing is stored. -/
theorem AM.below (h : AM W0 sb off base e sz n xs enc x xv xc bs ap lc false false false v) : Below W0.heap.size W0 v := by
  obtain ⟨v0, h0, _, _, h3⟩ := h.ex
  obtain rfl : v = v0 := h3
  exact h0
theorem AM.done (h : AM W0 sb off base e sz n xs enc x xv xc bs ap true true true true v) : ∃ v0 w3, Below W0.heap.size W0 v0 ∧ TzV v0 (New W0.heap.size v0) x xc ∧ AP v0 base e sz n xs (enc xc) xv w3 ap ∧ v = w3.setCell ⟨sb, off, none⟩ ap := by
  obtain ⟨v0, h0, _, h2, w3, h3, h4⟩ := h.ex
  exact ⟨v0, w3, h0, h2 rfl, h3, h4⟩
end
theorem row4_at {w : World} {l : List Rw} {a : Option Addr} {us : List R4} (h : RwsV w l a us) (j : Nat) (hj : j < l.length) : ∃ g o c, a = some ⟨g, o, none⟩ ∧ g < w.heap.size ∧ RwV w (l.getD j default) c ∧ (∀ W : World, W.heap[g]? = w.heap[g]? → W.cell? ⟨g, o + j * 4, none⟩ = some (.int .i64 c.k) ∧ W.cell? ⟨g, o + j * 4 + 1, none⟩ = some (.int .i64 c.n) ∧
      W.cell? ⟨g, o + j * 4 + 2, none⟩ = some (.slice c.an c.ln c.cn) ∧ W.cell? ⟨g, o + j * 4 + 3, none⟩ = some (.slice c.ak c.lk c.ck)) := by
  have hju : j < us.length := by rw [h.len]; exact hj
  obtain ⟨g, o, e, hg, hc⟩ := kid_at h.row j hju
  have hc := hc w (Below.refl _ _)
  refine ⟨g, o, us[j], e, hg, ?_, fun W hW => ?_⟩
  · rw [show l.getD j default = l[j] by simp [List.getD, hj]]
    exact h.val j hj hju
  · exact ⟨(World.cell?_of_block (a := ⟨g, o + j * 4, none⟩) hW).trans hc.1, (World.cell?_of_block (a := ⟨g, o + j * 4 + 1, none⟩) hW).trans hc.2.1, (World.cell?_of_block (a := ⟨g, o + j * 4 + 2, none⟩) hW).trans hc.2.2.1, (World.cell?_of_block (a := ⟨g, o + j * 4 + 3, none⟩) hW).trans hc.2.2.2⟩
/-- All but one block stay. -/
structure Kp (sb : Nat) (W wr : World) : Prop where
  size : W.heap.size ≤ wr.heap.size
  blk : ∀ g, g < W.heap.size → g ≠ sb → wr.heap[g]? = W.heap[g]?
theorem Kp.refl (sb : Nat) (W : World) : Kp sb W W := ⟨Nat.le_refl _, fun _ _ _ => rfl⟩
theorem Kp.below {sb : Nat} {W wr w' : World} (h : Kp sb W wr) (hb : Below wr.heap.size wr w') : Kp sb W w' :=
  ⟨Nat.le_trans h.size hb.size, fun g h1 h2 => (hb.block g (Nat.lt_of_lt_of_le h1 h.size)).trans (h.blk g h1 h2)⟩
theorem Kp.only {sb : Nat} {W wr w' : World} (h : Kp sb W wr) (ho : Only sb wr w') : Kp sb W w' :=
  ⟨Nat.le_trans h.size ho.size, fun g h1 h2 => (ho.block g (Nat.lt_of_lt_of_le h1 h.size) (fun e => h2 (by cases e; rfl))).trans (h.blk g h1 h2)⟩
theorem Kp.grown {sb : Nat} {W wr w' : World} {r : Option Nat} (h : Kp sb W wr) (hg : wr.grownBy w' r) (hr : ∀ g, r = some g → W.heap.size ≤ g) : Kp sb W w' :=
  ⟨Nat.le_trans h.size hg.size, fun g h1 h2 => (hg.block g (Nat.lt_of_lt_of_le h1 h.size) (fun e => by have := hr g e.symm; omega)).trans (h.blk g h1 h2)⟩
theorem Kp.past {sb sc : Nat} {W W' wr : World} (h : Kp sb W W') (k : Kp sc W' wr) (hs : W.heap.size ≤ sc ∨ sc = sb) : Kp sb W wr :=
  ⟨Nat.le_trans h.size k.size, fun g h1 h2 => (k.blk g (Nat.lt_of_lt_of_le h1 h.size) (by omega)).trans (h.blk g h1 h2)⟩
theorem AP.below {v0 v : World} {base : Nat} {e : TypeId} {sz n : Nat} {xs new : List Value} {xv v' : Value} {B : Nat} {w : World} (h : AP v0 base e sz n xs new xv v v') (hw : Below B w v0) (hB : ∀ g, xv.ownBlock = some g → B ≤ g) (hs : B ≤ v0.heap.size) : Below B w v :=
  (hw.alloc hs _).trans (below_grown h.grown hB (by simp; omega))
theorem AP.kp {v0 v : World} {base : Nat} {e : TypeId} {sz n : Nat} {xs new : List Value} {xv v' : Value} {sb : Nat} {W : World} (h : AP v0 base e sz n xs new xv v v') (hw : Kp sb W v0) (hB : ∀ g, xv.ownBlock = some g → W.heap.size ≤ g) : Kp sb W v :=
  (hw.below ((Below.refl _ _).alloc (Nat.le_refl _) _)).grown h.grown hB
theorem name_kp {w : World} {S : Nat → Prop} {a : Option Addr} {ns : List (List UInt8)} (h : RowV w S a 1 (ns.map fun n => [str n])) (j : Nat) (hj : j < ns.length) :
    ∃ g o, a = some ⟨g, o, none⟩ ∧ S g ∧ ∀ W : World, W.heap[g]? = w.heap[g]? → W.cell? ⟨g, o + j, none⟩ = some (.string ⟨(ns.getD j []).toArray⟩) := by
  rcases h with h | ⟨g, o, ha, hg, hc⟩
  · rw [List.map_eq_nil_iff.1 h] at hj; exact absurd hj (by simp)
  · refine ⟨g, o, ha, hg, fun W hW => ?_⟩
    have := hc j (by rw [List.length_map]; exact hj) 0 (str (ns.getD j [])) (by simp [List.getD, hj])
    rw [Nat.mul_one, Nat.add_zero] at this
    exact (World.cell?_of_block (a := ⟨g, o + j, none⟩) hW).trans this
/-- A schema that was made, in memory: its two rows are blocks of their own, made since z. -/
structure SchO (w : World) (z : Nat) (s : Sz) (c : C4) (v1 : Value) (us : List (List UInt8 × C4)) (v2 : Value) (gs : List (List UInt8 × G6)) : Prop where
  main : TzV w (Free w [] [v1, v2]) s.main c
  town : w.ownsRow z 44 5 v1 us.length (us.flatMap encZ)
  tlen : us.length = s.types.length
  tval : ∀ i (h : i < s.types.length) (h' : i < us.length), us[i].1 = s.types[i].1 ∧ TzV w (Free w [] [v1, v2]) s.types[i].2 us[i].2
  sown : w.ownsRow z 46 6 v2 gs.length (gs.flatMap encG)
  slen : gs.length = s.sigs.length
  sval : ∀ i (h : i < s.sigs.length) (h' : i < gs.length), SgV w (Free w [] [v1, v2]) s.sigs[i] gs[i]
  ap : ApartV v1 v2
/-- What a call of Schema leaves. -/
def SchP (s : Sz) (w : World) (e : Ending) (w' : World) : Prop := ∃ (c : C4) (a1 : Option Addr) (n1 : Nat) (us : List (List UInt8 × C4)) (a2 : Option Addr) (n2 : Nat) (gs : List (List UInt8 × G6)),
  e = .returned (.agg #[.int .i64 c.k, .string c.n, .slice c.an c.ln c.cn, .slice c.ak c.lk c.ck, .slice a1 s.types.length n1, .slice a2 s.sigs.length n2]) ∧ SchO w' w.heap.size s c (.slice a1 s.types.length n1) us (.slice a2 s.sigs.length n2) gs ∧ Below w.heap.size w w'
end Sp
end Go.Proofs.Ytjjpjkkaogfoaaa

namespace Go.Proofs.Ytjjpjkkaogfoaaa
open Go.RowKit
namespace Sp
open Sc

/-- What the operations yield. -/
structure SV (sb : Nat) (xv NA TY : Value) (j gn on gt ot : Nat) (n : List UInt8) (rc : R4) (xc : C4) (vals : Nat → Value) : Prop where
  v0 : vals 0 = .pointer (some ⟨sb, 4, none⟩)
  v1 : vals 1 = xv
  v2 : vals 2 = NA
  v3 : vals 3 = .int .i64 j
  v4 : vals 4 = .pointer (some ⟨gn, on, none⟩)
  v5 : vals 5 = .string ⟨n.toArray⟩
  v6 : vals 6 = TY
  v7 : vals 7 = .int .i64 j
  v8 : vals 8 = .pointer (some ⟨gt, ot, none⟩)
  v9 : vals 9 = .agg #[.int .i64 rc.k, .int .i64 rc.n, .slice rc.an rc.ln rc.cn, .slice rc.ak rc.lk rc.ck]
  v10 : vals 10 = NA
  v11 : vals 11 = .agg #[.int .i64 xc.k, .string xc.n, .slice xc.an xc.ln xc.cn, .slice xc.ak xc.lk xc.ck]
  v12 : vals 12 = .agg #[.string ⟨n.toArray⟩, .int .i64 xc.k, .string xc.n, .slice xc.an xc.ln xc.cn, .slice xc.ak xc.lk xc.ck]
  v15 : vals 15 = .pointer (some ⟨sb, 4, none⟩)
structure SJ (W0 : World) (sb base : Nat) (xv NA TY : Value) (j gn on gt ot : Nat) (n : List UInt8) (rc : R4) (x : Tz) (us : List (List UInt8 × C4)) (ops : Array Oper) (a0 : Act) (listed : Array Bool) (b : Act) (v : World) : Prop where
  size : listed.size = ops.size
  closed : Closed ops listed
  rest : ∃ (vals : Nat → Value) (xc : C4), Fr ops a0 vals listed b ∧ SV sb xv NA TY j gn on gt ot n rc xc vals ∧ AM W0 sb 4 base 44 5 us.length (us.flatMap encZ) (fun c => encZ (n, c)) x xv xc (vals 13) (vals 14) (listed.getD 11 false) (listed.getD 13 false) (listed.getD 14 false) (listed.getD 16 false) v
theorem SJ.quiet {W0 : World} {sb base : Nat} {xv NA TY : Value} {j gn on gt ot : Nat} {n : List UInt8} {rc : R4} {x : Tz} {us : List (List UInt8 × C4)} {ops : Array Oper} {a0 b : Act} {listed : Array Bool} {v : World} {i : Nat} {o : Oper} {vals : Nat → Value} {xc : C4} {Q : Exit → Act → World → Prop} (hz : listed.size = ops.size) (hC : Closed ops listed) (hi : i ∈ Region.ready .any ops listed) (hF : Fr ops a0 vals listed b) (hV : SV sb xv NA TY j gn on gt ot n rc xc vals)
    (hM : AM W0 sb 4 base 44 5 us.length (us.flatMap encZ) (fun c => encZ (n, c)) x xv xc (vals 13) (vals 14) (listed.getD 11 false) (listed.getD 13 false) (listed.getD 14 false) (listed.getD 16 false) v)
    (hs : Slots ops a0.tmps.size) (ho : ops[i]? = some o) (hg : o.guard = none) (h9 : i ≠ 11 ∧ i ≠ 13 ∧ i ≠ 14 ∧ i ≠ 16) (hr : (execOp b.eval o).run Try.prog v = .ok (.value (vals i)) v) :
    wpOp Try.prog ops Q i (fun b' v' => SJ W0 sb base xv NA TY j gn on gt ot n rc x us ops a0 (listed.setIfInBounds i true) b' v') b v := by
  refine wpOp_run ho hg hr ⟨by simp [hz], hC.put hi, vals, xc, hF.put hs hz ho, hV, ?_⟩
  simp only [getD_setF]
  simpa [h9.1, h9.2.1, h9.2.2.1, h9.2.2.2] using hM
theorem nm4_at (k : Nat) (hk : k < 4) : ([.string ⟨#[65]⟩, .string ⟨#[66, 101, 101]⟩, .string ⟨#[67, 97, 116]⟩, .string ⟨#[68, 111, 103]⟩] : List Value)[k]? = some (.string ⟨(nm4.getD k []).toArray⟩) := by
  match k, hk with
  | 0, _ => rfl
  | 1, _ => rfl
  | 2, _ => rfl
  | 3, _ => rfl
theorem fn4_at (k : Nat) (hk : k < 4) : ([.string ⟨#[102, 97]⟩, .string ⟨#[102, 98]⟩, .string ⟨#[102, 99]⟩, .string ⟨#[102, 100]⟩] : List Value)[k]? = some (.string ⟨(fn4.getD k []).toArray⟩) := by
  match k, hk with
  | 0, _ => rfl
  | 1, _ => rfl
  | 2, _ => rfl
  | 3, _ => rfl
theorem cells_new1Z (w : World) (o : Obj) (l : List Value) (t : TypeId) : ∀ (j : Nat) (u : Value), l[j]? = some u → ((w.alloc o).alloc (.cells l.toArray t)).cell? ((⟨w.heap.size + 1, 0, none⟩ : Addr).add j) = some u := by
  have h := cells_newZ (w.alloc o) l t
  rw [show (w.alloc o).heap.size = w.heap.size + 1 by simp] at h
  exact h
theorem nmF_snoc (l : List (List UInt8)) (n : List UInt8) : nmF l ++ [.string ⟨n.toArray⟩] = nmF (l ++ [n]) := by simp [nmF, str]
theorem take_snoc (l : List (List UInt8)) (i : Nat) (h : i < l.length) : l.take (i + 1) = l.take i ++ [l.getD i []] := by
  rw [List.take_add_one, List.getD, List.getElem?_eq_getElem h]; rfl
/-- The names that are gathered. -/
structure L1 (w W0 : World) (types : List Rw) (v8 v9 : Value) (wr : World) (i : Nat) : Prop where
  slot : v9 = .int .i64 i
  le : i ≤ types.length ∧ i ≤ 4
  own : wr.ownsRow (w.heap.size + 3) 9 1 v8 i (nmF (nm4.take i))
  below : Below (w.heap.size + 3) W0 wr
/-- The named types that are gathered. -/
structure L2 (w W1 : World) (names : List (List UInt8)) (types : List Rw) (v10 : Value) (wr : World) (j : Nat) (v : Value) (us : List (List UInt8 × C4)) : Prop where
  slot : v10 = .int .i64 j
  le : j ≤ names.length
  sat : wr.heap[w.heap.size + 2]? = some (.cells #[.int .i64 0, .string ⟨#[]⟩, .slice none 0 0, .slice none 0 0, v, .slice none 0 0] 29 (0, 0))
  row : GRow wr W1.heap.size [w.heap.size + 2, w.heap.size + 1] v (ntR names types j) us
  below : Below w.heap.size w wr
  kp : Kp (w.heap.size + 2) W1 wr
/-- What the operations yield. -/
structure FV (NA TY : Value) (i gt ot : Nat) (n : List UInt8) (rc : R4) (lb fb : Nat) (xc : C4) (vals : Nat → Value) : Prop where
  v0 : vals 0 = .slice (some ⟨lb, 0, none⟩) 4 4
  v1 : vals 1 = .int .i64 i
  v2 : vals 2 = .pointer (some ⟨lb, i, none⟩)
  v3 : vals 3 = .string ⟨n.toArray⟩
  v4 : vals 4 = TY
  v5 : vals 5 = .int .i64 i
  v6 : vals 6 = .pointer (some ⟨gt, ot, none⟩)
  v7 : vals 7 = .agg #[.int .i64 rc.k, .int .i64 rc.n, .slice rc.an rc.ln rc.cn, .slice rc.ak rc.lk rc.ck]
  v8 : vals 8 = NA
  v9 : vals 9 = .agg #[.int .i64 xc.k, .string xc.n, .slice xc.an xc.ln xc.cn, .slice xc.ak xc.lk xc.ck]
  v10 : vals 10 = .agg #[.string ⟨n.toArray⟩, .slice none 0 0, .int .i64 xc.k, .string xc.n, .slice xc.an xc.ln xc.cn, .slice xc.ak xc.lk xc.ck]
  v11 : vals 11 = .pointer (some ⟨fb, 0, none⟩)
/-- Memory: the row of names, the answer of Tree, the variable. -/
structure FM (W0 : World) (n : List UInt8) (x : Tz) (lb fb : Nat) (xc : C4) (l0 l9 l11 l12 : Bool) (v : World) : Prop where
  below : Below W0.heap.size W0 v
  lit : l0 = true → l12 = false → v.heap[lb]? = some (.cells #[.string ⟨#[102, 97]⟩, .string ⟨#[102, 98]⟩, .string ⟨#[102, 99]⟩, .string ⟨#[102, 100]⟩] 9 (0, 0))
  tree : l9 = true → TzV v (fun g => New W0.heap.size v g ∧ (l11 = true → g ≠ fb)) x xc
  fvar : l11 = true → W0.heap.size ≤ fb ∧ v.heap[fb]? = some (.cells (if l12 then #[.string ⟨n.toArray⟩, .slice none 0 0, .int .i64 xc.k, .string xc.n, .slice xc.an xc.ln xc.cn, .slice xc.ak xc.lk xc.ck] else #[.string ⟨#[]⟩, .slice none 0 0, .int .i64 0, .string ⟨#[]⟩, .slice none 0 0, .slice none 0 0]) 46 (0, 0))
section
variable {W0 : World} {n : List UInt8} {x : Tz} {lb fb : Nat} {xc xc' : C4} {l0 l9 l11 l12 : Bool} {v v' : World}
theorem FM.start : FM W0 n x lb fb xc false false false false W0 := ⟨Below.refl _ _, (fun h => by cases h), (fun h => by cases h), (fun h => by cases h)⟩
theorem FM.later (h : FM W0 n x lb fb xc l0 l9 l11 l12 v) (hb : Below v.heap.size v v') : FM W0 n x lb fb xc l0 l9 l11 l12 v' :=
  ⟨h.below.trans (hb.mono h.below.size), fun a b => (hb.block _ (Array.getElem?_eq_some_iff.1 (h.lit a b)).1).trans (h.lit a b), fun a => (h.tree a).keep (fun _ hg => ⟨⟨hg.1.1, Nat.lt_of_lt_of_le hg.1.2 hb.size⟩, hg.2⟩) (fun g hg => hb.block g hg.1.2), fun a => ⟨(h.fvar a).1, (hb.block _ (Array.getElem?_eq_some_iff.1 (h.fvar a).2).1).trans (h.fvar a).2⟩⟩
theorem FM.litted (h : FM W0 n x lb fb xc false l9 l11 l12 v) : FM W0 n x v.heap.size fb xc true l9 l11 l12 (v.alloc (.cells #[.string ⟨#[102, 97]⟩, .string ⟨#[102, 98]⟩, .string ⟨#[102, 99]⟩, .string ⟨#[102, 100]⟩] 9)) :=
  have k := h.later ((Below.refl _ v).alloc (Nat.le_refl _) (.cells #[.string ⟨#[102, 97]⟩, .string ⟨#[102, 98]⟩, .string ⟨#[102, 99]⟩, .string ⟨#[102, 100]⟩] 9))
  ⟨k.below, fun _ _ => heap_alloc_new v _, k.tree, k.fvar⟩
theorem FM.called (h : FM W0 n x lb fb xc l0 false l11 false v) (hb : Below v.heap.size v v') (hV : TzV v' (New v.heap.size v') x xc') : FM W0 n x lb fb xc' l0 true l11 false v' :=
  have k := h.later hb
  ⟨k.below, k.lit, fun _ => hV.keep (fun g hg => ⟨⟨Nat.le_trans h.below.size hg.1, hg.2⟩, fun a e => by have := (Array.getElem?_eq_some_iff.1 (h.fvar a).2).1; have := hg.1; omega⟩) (fun _ _ => rfl), fun a => by simpa using k.fvar a⟩
theorem FM.made (h : FM W0 n x lb fb xc l0 l9 false false v) : FM W0 n x lb v.heap.size xc l0 l9 true false (v.alloc (.cells #[.string ⟨#[]⟩, .slice none 0 0, .int .i64 0, .string ⟨#[]⟩, .slice none 0 0, .slice none 0 0] 46)) :=
  have k := h.later ((Below.refl _ v).alloc (Nat.le_refl _) (.cells #[.string ⟨#[]⟩, .slice none 0 0, .int .i64 0, .string ⟨#[]⟩, .slice none 0 0, .slice none 0 0] 46))
  ⟨k.below, k.lit, fun a => (h.tree a).keep (fun g hg => ⟨⟨hg.1.1, by simp; have := hg.1.2; omega⟩, fun _ e => by have := hg.1.2; omega⟩) (fun g hg => Below.heap_alloc _ _ _ hg.1.2), fun _ => ⟨h.below.size, heap_alloc_new v _⟩⟩
def putS (w : World) (b : Nat) (n : List UInt8) (xc : C4) : World :=
  (((((w.setCell ⟨b, 0, none⟩ (.string ⟨n.toArray⟩)).setCell ⟨b, 1, none⟩ (.slice none 0 0)).setCell ⟨b, 2, none⟩ (.int .i64 xc.k)).setCell ⟨b, 3, none⟩ (.string xc.n)).setCell ⟨b, 4, none⟩ (.slice xc.an xc.ln xc.cn)).setCell ⟨b, 5, none⟩ (.slice xc.ak xc.lk xc.ck)
theorem putS_only (w : World) (b : Nat) (n : List UInt8) (xc : C4) : Only b w (putS w b n xc) := ((((((Only.refl b w).setCell 0 _).setCell 1 _).setCell 2 _).setCell 3 _).setCell 4 _).setCell 5 _
theorem FM.stored (h : FM W0 n x lb fb xc true true true false v) : FM W0 n x lb fb xc true true true true (putS v fb n xc) := by
  have ho := putS_only v fb n xc
  obtain ⟨f1, f2⟩ := h.fvar rfl
  have f2 : v.heap[fb]? = some (.cells #[.string ⟨#[]⟩, .slice none 0 0, .int .i64 0, .string ⟨#[]⟩, .slice none 0 0, .slice none 0 0] 46 (0, 0)) := f2
  refine ⟨h.below.trans (ho.below f1 h.below.size), (fun _ h => by cases h), fun _ => (h.tree rfl).keep (fun g hg => ⟨⟨hg.1.1, Nat.lt_of_lt_of_le hg.1.2 ho.size⟩, hg.2⟩) (fun g hg => ho.block g hg.1.2 (fun e => hg.2 rfl (by cases e; rfl))), fun _ => ⟨f1, ?_⟩⟩
  simp [putS, World.setCell, Array.getElem?_modify, f2]
end
structure FJ (W0 : World) (NA TY : Value) (k gt ot : Nat) (n : List UInt8) (rc : R4) (x : Tz) (ops : Array Oper) (a0 : Act) (listed : Array Bool) (b : Act) (v : World) : Prop where
  size : listed.size = ops.size
  closed : Closed ops listed
  rest : ∃ (vals : Nat → Value) (lb : Nat) (fb : Nat) (xc : C4), Fr ops a0 vals listed b ∧ FV NA TY k gt ot n rc lb fb xc vals ∧ FM W0 n x lb fb xc (listed.getD 0 false) (listed.getD 9 false) (listed.getD 11 false) (listed.getD 12 false) v
theorem FJ.quiet {W0 : World} {NA TY : Value} {k gt ot : Nat} {n : List UInt8} {rc : R4} {x : Tz} {ops : Array Oper} {a0 b : Act} {listed : Array Bool} {v : World} {i : Nat} {o : Oper} {vals : Nat → Value} {lb : Nat} {fb : Nat} {xc : C4} {Q : Exit → Act → World → Prop} (hz : listed.size = ops.size) (hC : Closed ops listed) (hi : i ∈ Region.ready .any ops listed) (hF : Fr ops a0 vals listed b) (hV : FV NA TY k gt ot n rc lb fb xc vals)
    (hM : FM W0 n x lb fb xc (listed.getD 0 false) (listed.getD 9 false) (listed.getD 11 false) (listed.getD 12 false) v)
    (hs : Slots ops a0.tmps.size) (ho : ops[i]? = some o) (hg : o.guard = none) (h9 : i ≠ 0 ∧ i ≠ 9 ∧ i ≠ 11 ∧ i ≠ 12) (hr : (execOp b.eval o).run Try.prog v = .ok (.value (vals i)) v) :
    wpOp Try.prog ops Q i (fun b' v' => FJ W0 NA TY k gt ot n rc x ops a0 (listed.setIfInBounds i true) b' v') b v := by
  refine wpOp_run ho hg hr ⟨by simp [hz], hC.put hi, vals, lb, fb, xc, hF.put hs hz ho, hV, ?_⟩
  simp only [getD_setF]
  simpa [h9.1, h9.2.1, h9.2.2.1, h9.2.2.2] using hM
/-- What the operations yield. -/
structure PVs (sb : Nat) (xv NA TY KS : Value) (i k gt ot gk ok : Nat) (rc : R4) (xc : C4) (vals : Nat → Value) : Prop where
  v0 : vals 0 = .pointer (some ⟨sb, 1, none⟩)
  v1 : vals 1 = xv
  v2 : vals 2 = TY
  v3 : vals 3 = .int .i64 i
  v4 : vals 4 = .pointer (some ⟨gt, ot, none⟩)
  v5 : vals 5 = .pointer (some ⟨gt, ot + 3, none⟩)
  v6 : vals 6 = KS
  v7 : vals 7 = .int .i64 k
  v8 : vals 8 = .pointer (some ⟨gk, ok, none⟩)
  v9 : vals 9 = .agg #[.int .i64 rc.k, .int .i64 rc.n, .slice rc.an rc.ln rc.cn, .slice rc.ak rc.lk rc.ck]
  v10 : vals 10 = NA
  v11 : vals 11 = .agg #[.int .i64 xc.k, .string xc.n, .slice xc.an xc.ln xc.cn, .slice xc.ak xc.lk xc.ck]
  v14 : vals 14 = .pointer (some ⟨sb, 1, none⟩)
structure PJs (W0 : World) (sb base : Nat) (xv NA TY KS : Value) (m k gt ot gk ok : Nat) (rc : R4) (x : Tz) (us : List C4) (ops : Array Oper) (a0 : Act) (listed : Array Bool) (b : Act) (v : World) : Prop where
  size : listed.size = ops.size
  closed : Closed ops listed
  rest : ∃ (vals : Nat → Value) (xc : C4), Fr ops a0 vals listed b ∧ PVs sb xv NA TY KS m k gt ot gk ok rc xc vals ∧ AM W0 sb 1 base 25 4 us.length (us.flatMap C4.cells) C4.cells x xv xc (vals 12) (vals 13) (listed.getD 11 false) (listed.getD 12 false) (listed.getD 13 false) (listed.getD 15 false) v
theorem PJs.quiet {W0 : World} {sb base : Nat} {xv NA TY KS : Value} {m k gt ot gk ok : Nat} {rc : R4} {x : Tz} {us : List C4} {ops : Array Oper} {a0 b : Act} {listed : Array Bool} {v : World} {i : Nat} {o : Oper} {vals : Nat → Value} {xc : C4} {Q : Exit → Act → World → Prop} (hz : listed.size = ops.size) (hC : Closed ops listed) (hi : i ∈ Region.ready .any ops listed) (hF : Fr ops a0 vals listed b) (hV : PVs sb xv NA TY KS m k gt ot gk ok rc xc vals)
    (hM : AM W0 sb 1 base 25 4 us.length (us.flatMap C4.cells) C4.cells x xv xc (vals 12) (vals 13) (listed.getD 11 false) (listed.getD 12 false) (listed.getD 13 false) (listed.getD 15 false) v)
    (hs : Slots ops a0.tmps.size) (ho : ops[i]? = some o) (hg : o.guard = none) (h9 : i ≠ 11 ∧ i ≠ 12 ∧ i ≠ 13 ∧ i ≠ 15) (hr : (execOp b.eval o).run Try.prog v = .ok (.value (vals i)) v) :
    wpOp Try.prog ops Q i (fun b' v' => PJs W0 sb base xv NA TY KS m k gt ot gk ok rc x us ops a0 (listed.setIfInBounds i true) b' v') b v := by
  refine wpOp_run ho hg hr ⟨by simp [hz], hC.put hi, vals, xc, hF.put hs hz ho, hV, ?_⟩
  simp only [getD_setF]
  simpa [h9.1, h9.2.1, h9.2.2.1, h9.2.2.2] using hM
theorem own_kp {W wr : World} {base b sz n : Nat} {e : TypeId} {v : Value} {xs : List Value} (h : W.ownsRow base e sz v n xs) (hb : b ≤ base) (hk : ∀ g, v.ownBlock = some g → wr.heap[g]? = W.heap[g]?) : wr.ownsRow b e sz v n xs := by
  rcases h.2 with ⟨rfl, h0⟩ | ⟨g, cap, cur, rfl, hg, hc, hr⟩
  · exact ⟨h.1, .inl ⟨rfl, h0⟩⟩
  · exact ⟨h.1, .inr ⟨g, cap, cur, rfl, Nat.le_trans hb hg, (hk g rfl).trans hc, hr⟩⟩
/-- Blocks of a row. -/
def blkL (v : Value) : List Nat := v.ownBlock.toList
theorem mem_blkL {v : Value} {g : Nat} : g ∈ blkL v ↔ v.ownBlock = some g := by unfold blkL; cases v.ownBlock <;> simp [eq_comm]
theorem lit_at {w : World} {b : Nat} {t : TypeId} {l : List Value} (h : w.heap[b]? = some (.cells l.toArray t (0, 0))) {k : Nat} {nm : List UInt8} (hk : l[k]? = some (.string ⟨nm.toArray⟩)) : w.cell? ⟨b, k, none⟩ = some (.string ⟨nm.toArray⟩) := by
  simp [World.cell?, h, hk]
/-- The functions that are gathered. -/
structure L3 (w W3 : World) (X3 : List Nat) (names : List (List UInt8)) (sigs : List Rw) (mc : C4) (v1 : Value) (v11 : Value) (wr : World) (j : Nat) (v : Value) (gs : List (List UInt8 × G6)) : Prop where
  slot : v11 = .int .i64 j
  le : j ≤ sigs.length ∧ j ≤ 4
  sat : wr.heap[w.heap.size + 2]? = some (.cells #[.int .i64 mc.k, .string mc.n, .slice mc.an mc.ln mc.cn, .slice mc.ak mc.lk mc.ck, v1, v] 29 (0, 0))
  row : SRow wr W3.heap.size X3 v (sgsR names sigs j) gs
  below : Below w.heap.size w wr
  kp : Kp (w.heap.size + 2) W3 wr
/-- A function's parameters that are gathered. -/
structure L4 (W4 : World) (fb : Nat) (X : List Nat) (v2 : Value) (n : List UInt8) (names : List (List UInt8)) (ks : List Rw) (xc : C4) (v13 : Value) (wr : World) (k : Nat) (v : Value) (us : List C4) : Prop where
  slot : v13 = .int .i64 k
  le : k ≤ ks.length ∧ k ≤ 3
  fat : wr.heap[fb]? = some (.cells #[.string ⟨n.toArray⟩, v, .int .i64 xc.k, .string xc.n, .slice xc.an xc.ln xc.cn, .slice xc.ak xc.lk xc.ck] 46 (0, 0))
  row : TRow wr W4.heap.size (fb :: X) [v, v2] v (parR names ks k) us
  kp : Kp fb W4 wr
  below : Below fb W4 wr
end Sp
end Go.Proofs.Ytjjpjkkaogfoaaa

namespace Go.Proofs.Ytjjpjkkaogfoaaa
open Go.RowKit
namespace Sp
open Sc

theorem SzV.up {w w' : World} {s : Sz} {c : C4} {a1 a2 : Option Addr} {us : List (List UInt8 × C4)} {gs : List (List UInt8 × G6)} (h : SzV w (Any w) s c a1 us a2 gs) (hb : Below w.heap.size w w') : SzV w' (Any w') s c a1 us a2 gs :=
  ⟨h.main.grow hb, h.nt, h.rt.up hb, fun i h1 h2 => ⟨(h.vt i h1 h2).1, (h.vt i h1 h2).2.grow hb⟩, h.ng, h.rg.up hb, fun i h1 h2 => (h.vg i h1 h2).step (fun g hg => ⟨Nat.lt_of_lt_of_le hg hb.size, hb.block g hg⟩)⟩
/-- What a name stands for, the first of that name; nothing: a type of no kind. -/
def firstZ (l : List NT) (s : List UInt8) : Tz := match l.find? (fun x => decide (x.1 = s)) with | some x => x.2 | none => .mk 0 [] [] []
theorem find_at {s : List UInt8} : ∀ {l : List NT} {k : Nat} (hk : k < l.length), (∀ i (h : i < l.length), i < k → l[i].1 ≠ s) → l[k].1 = s → l.find? (fun x => decide (x.1 = s)) = some l[k]
  | a :: l, 0, _, _, h2 => by
    simp only [List.getElem_cons_zero] at h2 ⊢
    rw [List.find?_cons_of_pos (by simpa using h2)]
  | a :: l, k + 1, hk, h1, h2 => by
    have h0 := h1 0 (by simp) (by omega)
    simp only [List.getElem_cons_zero] at h0
    simp only [List.getElem_cons_succ] at h2 ⊢
    rw [List.find?_cons_of_neg (by simpa using h0)]
    exact find_at (by simpa using hk) (fun i h hi => by have := h1 (i + 1) (by simpa using h) (by omega); simpa using this) h2
theorem first_at {l : List NT} {s : List UInt8} {k : Nat} (hk : k < l.length) (h1 : ∀ i (h : i < l.length), i < k → l[i].1 ≠ s) (h2 : l[k].1 = s) : firstZ l s = l[k].2 ∧ hasZ l s = true := by
  refine ⟨?_, hasZ_iff.2 ⟨_, List.getElem_mem hk, h2⟩⟩
  unfold firstZ; rw [find_at hk h1 h2]
theorem first_no {l : List NT} {s : List UInt8} (h1 : ∀ i (h : i < l.length), l[i].1 ≠ s) : firstZ l s = .mk 0 [] [] [] ∧ hasZ l s = false := by
  constructor
  · unfold firstZ
    rw [List.find?_eq_none.2 (fun x hx => by
      obtain ⟨i, hi, rfl⟩ := List.mem_iff_getElem.1 hx
      simpa using h1 i hi)]
  · cases hh : hasZ l s
    · rfl
    · obtain ⟨x, hx, e⟩ := hasZ_iff.1 hh
      obtain ⟨i, hi, rfl⟩ := List.mem_iff_getElem.1 hx
      exact absurd e (h1 i hi)
set_option maxRecDepth 100000 in
set_option maxHeartbeats 8000000 in
theorem Def_ref (S : Nat → Prop) (s : Sz) (nm : List UInt8) (c : C4) (a1 a2 : Option Addr) (us : List (List UInt8 × C4)) (gs : List (List UInt8 × G6)) (c1 c2 : Nat) (w : World) (hS : ∀ g, S g → g < w.heap.size) (hV : SzV w S s c a1 us a2 gs) (hl : s.types.length ≤ maxLen) :
    Calls Try.prog 88 #[.agg #[.int .i64 c.k, .string c.n, .slice c.an c.ln c.cn, .slice c.ak c.lk c.ck, .slice a1 s.types.length c1, .slice a2 s.sigs.length c2], .string ⟨nm.toArray⟩] w fun e w' => ∃ ct : C4, e = .returned (.tuple #[.agg #[.int .i64 ct.k, .string ct.n, .slice ct.an ct.ln ct.cn, .slice ct.ak ct.lk ct.ck], .bool (hasZ s.types nm)]) ∧ TzV w' S (firstZ s.types nm) ct ∧ Below w.heap.size w w' := by
  unfold maxLen at hl
  have HSS := Lib.hid hS
  clear hS
  obtain ⟨W0, hW0⟩ : ∃ W0, W0 = (w.alloc (.cells #[.int .i64 c.k, .string c.n, .slice c.an c.ln c.cn, .slice c.ak c.lk c.ck, .slice a1 s.types.length c1, .slice a2 s.sigs.length c2] 29)).alloc (.cells #[.int .i64 0, .string ⟨#[]⟩, .slice none 0 0, .slice none 0 0] 25) := ⟨_, rfl⟩
  have hb0 : Below w.heap.size w W0 := by rw [hW0]; exact ((Below.refl _ _).alloc (Nat.le_refl _) _).alloc (by simp) _
  have hz0 : W0.heap.size = w.heap.size + 2 := by rw [hW0]; simp
  have hs0 : W0.heap[w.heap.size]? = some (.cells #[.int .i64 c.k, .string c.n, .slice c.an c.ln c.cn, .slice c.ak c.lk c.ck, .slice a1 s.types.length c1, .slice a2 s.sigs.length c2] 29 (0, 0)) := by rw [hW0, blk_if, if_neg (by simp), blk_if, if_pos rfl]
  have ho0 : W0.heap[w.heap.size + 1]? = some (.cells #[.int .i64 0, .string ⟨#[]⟩, .slice none 0 0, .slice none 0 0] 25 (0, 0)) := by rw [hW0, blk_if, if_pos (by simp)]
  obtain ⟨⟨s0, s1, s2, s3, s4, s5⟩, _⟩ := six_blkF hs0
  obtain ⟨⟨o0, o1, o2, o3⟩, ⟨f0, f1, f2, f3⟩⟩ := four_blk ho0
  have HV := Lib.hid hV; have HW0 := Lib.hid hW0; have HB0 := Lib.hid hb0; have HO0 := Lib.hid ho0
  clear hV hW0 hb0 hs0 ho0
  go_enter Try.func88, Try.ntmps88
  go_wp2_with fail
  rw [← HW0.out]
  go_wp2_with fail
  go_loop [6] (fun kv => ∃ k : Nat, k ≤ s.types.length ∧ kv = .int .i64 k ∧ Hid (∀ i (h : i < s.types.length), i < k → s.types[i].1 ≠ nm)) (fun kv => s.types.length - (intOf kv).toNat)
  case atStart => exact ⟨0, Nat.zero_le _, rfl, fun i h hi => by omega⟩
  case round =>
    obtain ⟨k, hk, rfl, hd⟩ := hrel
    by_cases hlt : k < s.types.length
    · have hku : k < us.length := by rw [HV.out.nt]; exact hlt
      obtain ⟨g, o, rfl, hg, hc⟩ := nam_at HV.out.rt HSS.out k hku
      obtain ⟨c0, d0, d1, d2, d3⟩ := hc W0 (fun j hj => HB0.out.block j hj)
      obtain ⟨hn, hv⟩ := HV.out.vt k hlt hku
      rw [hn] at c0
      have hkz : (k : Int) < (s.types.length : Int) := by omega
      have hk0 : (0 : Int) ≤ (k : Int) := by omega
      have e1 := toList_mk' s.types[k].1
      have e2 := toList_mk' nm
      by_cases he : s.types[k].1 = nm
      · obtain ⟨r1, r2⟩ := first_at hlt hd.out he
        have hq : (s.types[k].1 == nm) = true := by simpa using he
        have HR1 := Lib.hid r1; have HR2 := Lib.hid r2; have HVK := Lib.hid hv
        clear r1 r2 hc hn hv he
        generalize us[k].2 = x at *
        generalize s.types[k].1 = a at *
        obtain ⟨⟨v0, v1, v2, v3⟩, _⟩ := four_blk (put4_at HO0.out x)
        have hPO := put4_only W0 (w.heap.size + 1) x
        have hbl := HB0.out.trans (hPO.below (by omega) (by omega))
        have HF := Lib.hid (HVK.out.keep (fun _ h => h) (fun g hg => hbl.block g (HSS.out g hg))); have HBL := Lib.hid hbl
        clear hbl hPO
        unfold put4 at v0 v1 v2 v3
        go_wp2
        refine bodyPost_ret (v := .tuple #[.agg #[.int .i64 x.k, .string x.n, .slice x.an x.ln x.cn, .slice x.ak x.lk x.ck], .bool true]) (by simp [results, Try.results88, go_sem, v0, v1, v2, v3]) rfl ?_
        exact ⟨x, by rw [HR2.out], by rw [HR1.out]; exact HF.out, HBL.out⟩
      · have hq : (s.types[k].1 == nm) = false := by simpa using he
        have hd' : ∀ i (h : i < s.types.length), i < k + 1 → s.types[i].1 ≠ nm := fun i h hi => by
          by_cases e : i = k
          · subst e; exact he
          · exact hd.out i h (by omega)
        have HD := Lib.hid hd'
        clear hd' hd hc he hn hv d0 d1 d2 d3
        generalize s.types[k].1 = a at *
        go_wp2
        go_round
        case rel => exact ⟨k + 1, by omega, by go_num, HD⟩
        case measure => simp [intOf]; omega
    · have hkz : ¬ (k : Int) < (s.types.length : Int) := by omega
      obtain ⟨r1, r2⟩ := first_no (fun i h => hd.out i h (by omega))
      have HR1 := Lib.hid r1; have HR2 := Lib.hid r2
      clear r1 r2 hd
      obtain ⟨⟨v0, v1, v2, v3⟩, _⟩ := four_blk (put4_at HO0.out ⟨0, ⟨#[]⟩, none, 0, 0, none, 0, 0⟩)
      have hPO := put4_only W0 (w.heap.size + 1) ⟨0, ⟨#[]⟩, none, 0, 0, none, 0, 0⟩
      have hbl := HB0.out.trans (hPO.below (by omega) (by omega))
      have HBL := Lib.hid hbl
      clear hbl hPO
      unfold put4 at v0 v1 v2 v3
      go_wp2
      refine bodyPost_ret (v := .tuple #[.agg #[.int .i64 0, .string ⟨#[]⟩, .slice none 0 0, .slice none 0 0], .bool false]) (by simp [results, Try.results88, go_sem, v0, v1, v2, v3]) rfl ?_
      exact ⟨⟨0, ⟨#[]⟩, none, 0, 0, none, 0, 0⟩, by rw [HR2.out], by rw [HR1.out]; exact TzV.leaf _ _ 0 [], HBL.out⟩

/-! ### finite -/
def nowR (l : List NT) (L : List (List UInt8)) (i : Nat) : List (List UInt8) := ((l.take i).filter fun x => endsR (inR L) x.2).map (·.1)
theorem nowR_all (l : List NT) (L : List (List UInt8)) : nowR l L l.length = stepR l L := by unfold nowR stepR; rw [List.take_length]
theorem nowR_succ (l : List NT) (L : List (List UInt8)) (i : Nat) (h : i < l.length) : nowR l L (i + 1) = if endsR (inR L) l[i].2 = true then nowR l L i ++ [l[i].1] else nowR l L i := by
  unfold nowR
  rw [List.take_add_one, List.getElem?_eq_getElem h, Option.toList_some, List.filter_append, List.map_append]
  cases he : endsR (inR L) l[i].2
  · simp [he]
  · simp [he]
theorem nowR_len (l : List NT) (L : List (List UInt8)) (i : Nat) : (nowR l L i).length ≤ l.length := by
  unfold nowR; rw [List.length_map]; exact Nat.le_trans (List.length_filter_le _ _) (by rw [List.length_take]; omega)
structure FiR (w : World) (bc : Array Value) (l : List NT) (v3 v4 : Value) (wr : World) (k : Nat) (la : Option Addr) (lc : Nat) : Prop where
  slot3 : v3 = .slice la (finR l k).length lc
  slot4 : v4 = .int .i64 k
  le : k ≤ l.length + 1
  row : RowV wr (Any wr) la 1 ((finR l k).map fun n => [str n])
  box : wr.heap[w.heap.size]? = some (.cells bc 29 (0, 0))
  below : Below w.heap.size w wr
structure FiI (W1 : World) (l : List NT) (L : List (List UInt8)) (v5 v6 : Value) (wr : World) (i : Nat) : Prop where
  slot6 : v6 = .int .i64 i
  le : i ≤ l.length
  own : wr.ownsRow W1.heap.size 9 1 v5 (nowR l L i).length (nmF (nowR l L i))
  below : Below W1.heap.size W1 wr
set_option maxRecDepth 100000 in
set_option maxHeartbeats 8000000 in
theorem finite_ref (s : Sz) (c : C4) (a1 a2 : Option Addr) (us : List (List UInt8 × C4)) (gs : List (List UInt8 × G6)) (c1 c2 : Nat) (w : World) (hV : SzV w (Any w) s c a1 us a2 gs) (hl : s.types.length ≤ 1000000) (hf : SzFit s) :
    Calls Try.prog 45 #[.agg #[.int .i64 c.k, .string c.n, .slice c.an c.ln c.cn, .slice c.ak c.lk c.ck, .slice a1 s.types.length c1, .slice a2 s.sigs.length c2]] w fun e w' => ∃ la lc, e = .returned (.slice la (finiteR s.types).length lc) ∧ RowV w' (Any w') la 1 ((finiteR s.types).map fun n => [str n]) ∧ Below w.heap.size w w' := by
  obtain ⟨W0, hW0⟩ : ∃ W0, W0 = w.alloc (.cells #[.int .i64 c.k, .string c.n, .slice c.an c.ln c.cn, .slice c.ak c.lk c.ck, .slice a1 s.types.length c1, .slice a2 s.sigs.length c2] 29) := ⟨_, rfl⟩
  have hb0 : Below w.heap.size w W0 := by rw [hW0]; exact (Below.refl _ _).alloc (Nat.le_refl _) _
  have hs0 : W0.heap[w.heap.size]? = some (.cells #[.int .i64 c.k, .string c.n, .slice c.an c.ln c.cn, .slice c.ak c.lk c.ck, .slice a1 s.types.length c1, .slice a2 s.sigs.length c2] 29 (0, 0)) := by rw [hW0]; exact heap_alloc_new w _
  obtain ⟨is, his, js, ls, ms⟩ := info_parts infoS
  have HIs := Lib.hid his; have HJs := Lib.hid js; have HKs := Lib.hid ls; have HLs := Lib.hid ms
  have HV := Lib.hid hV; have HW0 := Lib.hid hW0; have HB0 := Lib.hid hb0; have HS0 := Lib.hid hs0; have HFT := Lib.hid hf
  clear hV hW0 hb0 hs0 his js ls ms hf
  go_enter Try.func45, Try.ntmps45
  go_wp2_with fail
  rw [← HW0.out]
  go_wp2_with fail
  go_loopw [3, 4] (fun v3 v4 wr => ∃ k la lc, FiR w #[.int .i64 c.k, .string c.n, .slice c.an c.ln c.cn, .slice c.ak c.lk c.ck, .slice a1 s.types.length c1, .slice a2 s.sigs.length c2] s.types v3 v4 wr k la lc) (fun _ v4 _ => s.types.length + 1 - (intOf v4).toNat)
  case atStart => exact ⟨0, none, 0, rfl, rfl, Nat.zero_le _, .inl rfl, HS0.out, HB0.out⟩
  case round =>
    obtain ⟨k, la, lc, h⟩ := hrel
    obtain rfl := h.slot3
    obtain rfl := h.slot4
    have hle := h.le
    have hfl := finR_len s.types k
    obtain ⟨⟨s0, s1, s2, s3, s4, s5⟩, _⟩ := six_blkF h.box
    have H := Lib.hid h
    have hwz := (Array.getElem?_eq_some_iff.1 h.box).1
    clear h
    by_cases hkl : k ≤ s.types.length
    · have hkz : (k : Int) ≤ (s.types.length : Int) := by omega
      obtain ⟨L, hL⟩ : ∃ L, L = finR s.types k := ⟨_, rfl⟩
      rw [← hL] at H hfl ⊢
      have HLE := Lib.hid hL
      clear hL
      obtain ⟨W1, rfl⟩ : ∃ W1, W1 = wr := ⟨_, rfl⟩
      go_wp2_with fail
      go_loopw [5, 6] (fun v5 v6 wr => ∃ i, FiI W1 s.types L v5 v6 wr i) (fun _ v6 _ => s.types.length - (intOf v6).toNat)
      case atStart => exact ⟨0, rfl, Nat.zero_le _, World.ownsRow_nil _ _ _ _, Below.refl _ _⟩
      case round =>
        obtain ⟨i, h⟩ := hrel
        obtain rfl := h.slot6
        have hle2 := h.le
        have hiz := h.below.size
        obtain ⟨⟨t0, t1, t2, t3, t4, t5⟩, _⟩ := six_blkF ((h.below.block w.heap.size hwz).trans H.out.box)
        obtain ⟨xa, xc, hx⟩ := own_sliceZ h.own
        subst hx
        have H2 := Lib.hid h
        clear h s0 s1 s2 s3 s4 s5
        have hbw : Below w.heap.size w wr := H.out.below.trans (H2.out.below.mono (by omega))
        by_cases hil : i < s.types.length
        · have hju : i < us.length := by rw [HV.out.nt]; exact hil
          obtain ⟨g, o, rfl, hg, hc⟩ := nam_at HV.out.rt (fun _ h => h) i hju
          obtain ⟨q0, q1, q2, q3, q4⟩ := hc wr (fun j hj => hbw.block j hj)
          obtain ⟨hn, hv⟩ := HV.out.vt i hil hju
          rw [hn] at q0
          have C := ends_ref L (by unfold maxLen; omega) s.types[i].2 (HFT.out.types i hil).2 us[i].2 la lc wr (hv.grow hbw) (by have := H.out.row.up H2.out.below; rw [← HLE.out] at this; exact this)
          have hns := nowR_succ s.types L i hil
          have hnl := nowR_len s.types L i
          have hiz2 : (i : Int) < (s.types.length : Int) := by omega
          have hi0 : (0 : Int) ≤ (i : Int) := by omega
          have hbz := hbw.size
          generalize us[i].2 = x at *
          generalize s.types[i].1 = nm at *
          have HCC : Hid (∀ W : World, (∀ j, j < w.heap.size → W.heap[j]? = w.heap[j]?) → W.cell? ⟨g, o + i * 5, none⟩ = some (.string ⟨nm.toArray⟩) ∧ W.cell? ⟨g, o + i * 5 + 1, none⟩ = some (.int .i64 x.k) ∧ W.cell? ⟨g, o + i * 5 + 2, none⟩ = some (.string x.n) ∧ W.cell? ⟨g, o + i * 5 + 3, none⟩ = some (.slice x.an x.ln x.cn) ∧ W.cell? ⟨g, o + i * 5 + 4, none⟩ = some (.slice x.ak x.lk x.ck)) := fun W hW => by have := hc W hW; rw [hn] at this; exact this
          have HC := Lib.hid C; have HN := Lib.hid hns; have HBW := Lib.hid hbw
          clear C hns hc hn hv hbw
          cases he : endsR (inR L) s.types[i].2
          · have hq : nowR s.types L (i + 1) = nowR s.types L i := by rw [HN.out, he]; rfl
            rw [he] at HC
            have HQ := Lib.hid hq
            clear hq he
            go_wp2_with (go_at_call 49; (with_reducible refine HC.out.mono ?_); rintro e w2 ⟨rfl, x2⟩; have HX2 := Lib.hid x2; clear x2)
            go_roundw
            case rel => exact ⟨i + 1, by go_num, by omega, by rw [HQ.out]; exact own_kp H2.out.own (Nat.le_refl _) (fun g e => HX2.out.block g (H2.out.own.lt g e).2), H2.out.below.trans (HX2.out.mono H2.out.below.size)⟩
            case measure => simp [intOf]; omega
          · have hq : nowR s.types L (i + 1) = nowR s.types L i ++ [nm] := by rw [HN.out, he, if_pos rfl]
            rw [he] at HC
            have HQ := Lib.hid hq
            clear hq he
            go_wp2_with (first
              | (go_at_call 49; (with_reducible refine HC.out.mono ?_); rintro e w2 ⟨rfl, x2⟩; have hz2 := x2.size; obtain ⟨⟨a0, a1', a2', a3, a4, a5⟩, _⟩ := six_blkF ((x2.block w.heap.size (by omega)).trans ((H2.out.below.block w.heap.size hwz).trans H.out.box)); obtain ⟨b0, b1, b2, b3, b4⟩ := HCC.out w2 (fun j hj => (x2.block j (by omega)).trans (HBW.out.block j hj)); have HX2 := Lib.hid x2; clear x2)
              | (at_builtin; (refine Sh.wpList_append_fresh rfl _ _ 22 rfl W1.heap.size 9 is (.string ⟨#[]⟩) 1 16 Try.underlying22 HIs.out HJs.out HKs.out HLs.out rfl (by decide) _ _ _ rfl ((own_kp H2.out.own (Nat.le_refl _) (fun g e => HX2.out.block g (H2.out.own.lt g e).2)).alloc _) ⟨w2.heap.size, 0, none⟩ 1 1 [.string ⟨nm.toArray⟩] rfl rfl (cells_newZ _ _ _) (fun x hx => by simp at hx; subst hx; rfl) (by unfold maxLen; omega) (by omega) (by simp; omega) ?_); intro v' w5 hown' hgrow hfr; have HOW := Lib.hid hown'; have HGR := Lib.hid hgrow; clear hown' hgrow hfr))
            go_roundw
            case rel =>
              have ho := HOW.out
              rw [nmF_snoc, ← HQ.out] at ho
              exact ⟨i + 1, by go_num, by omega, by rw [show (nowR s.types L (i + 1)).length = (nowR s.types L i).length + 1 by rw [HQ.out]; simp]; exact ho, ((H2.out.below.trans (HX2.out.mono H2.out.below.size)).alloc (by omega) _).trans (below_grown HGR.out (fun g e => (H2.out.own.lt g e).1) (by simp; omega))⟩
            case measure => simp [intOf]; omega
        · have hiz2 : ¬ (i : Int) < (s.types.length : Int) := by omega
          obtain rfl : i = s.types.length := by omega
          have hna : nowR s.types L s.types.length = finR s.types (k + 1) := by rw [nowR_all, HLE.out]; rfl
          have ho := H2.out.own
          obtain ⟨xa', xc', e1, hr⟩ := RowV.own (S := Any wr) (l := (nowR s.types L s.types.length).map fun n => [str n]) ho (str1_len _) (by simp) (fun g hg => (ho.lt g hg).2)
          obtain ⟨rfl, rfl⟩ : xa = xa' ∧ xc = xc' := by cases e1; exact ⟨rfl, rfl⟩
          rw [hna] at hr
          have HNA := Lib.hid hna; have HR := Lib.hid hr; have HBW := Lib.hid hbw
          clear hna hr e1 ho hbw
          go_wp2
          go_roundw
          case rel => exact ⟨k + 1, xa, xc, by rw [HNA.out], by go_num, by omega, HR.out, (H2.out.below.block w.heap.size hwz).trans H.out.box, HBW.out⟩
          case measure => simp [intOf]; omega
    · have hkz : ¬ (k : Int) ≤ (s.types.length : Int) := by omega
      obtain rfl : k = s.types.length + 1 := by omega
      go_wp2
      go_ret
      exact ⟨la, ⟨lc, rfl⟩, H.out.row, H.out.below⟩
end Sp
end Go.Proofs.Ytjjpjkkaogfoaaa

namespace Go.Proofs.Ytjjpjkkaogfoaaa
open Go.RowKit
namespace Sp
open Sc

/-- What the operations yield. -/
structure NV (s : Sz) (c : C4) (a1 a2 : Option Addr) (c1 c2 : Nat) (t : C4) (la : Option Addr) (lc : Nat) (bb : Bool) (vals : Nat → Value) : Prop where
  v0 : vals 0 = .agg #[.int .i64 c.k, .string c.n, .slice c.an c.ln c.cn, .slice c.ak c.lk c.ck, .slice a1 s.types.length c1, .slice a2 s.sigs.length c2]
  v1 : vals 1 = .slice la (finiteR s.types).length lc
  v2 : vals 2 = .agg #[.int .i64 t.k, .string t.n, .slice t.an t.ln t.cn, .slice t.ak t.lk t.ck]
  v3 : vals 3 = .bool bb
  v4 : vals 4 = .bool bb
structure NM (W0 : World) (L : List (List UInt8)) (la : Option Addr) (l1 l3 : Bool) (v : World) : Prop where
  below : Below W0.heap.size W0 v
  row : l1 = true → RowV v (Any v) la 1 (L.map fun n => [str n])
  imp : l3 = true → l1 = true
structure NJ (W0 : World) (s : Sz) (c : C4) (a1 a2 : Option Addr) (c1 c2 : Nat) (t : C4) (bb : Bool) (ops : Array Oper) (a0 : Act) (listed : Array Bool) (b : Act) (v : World) : Prop where
  size : listed.size = ops.size
  closed : Closed ops listed
  rest : ∃ (vals : Nat → Value) (la : Option Addr) (lc : Nat), Fr ops a0 vals listed b ∧ NV s c a1 a2 c1 c2 t la lc bb vals ∧ NM W0 (finiteR s.types) la (listed.getD 1 false) (listed.getD 3 false) v
theorem NJ.quiet {W0 : World} {s : Sz} {c : C4} {a1 a2 : Option Addr} {c1 c2 : Nat} {t : C4} {bb : Bool} {ops : Array Oper} {a0 b : Act} {listed : Array Bool} {v : World} {i : Nat} {o : Oper} {vals : Nat → Value} {la : Option Addr} {lc : Nat} {Q : Exit → Act → World → Prop} (hz : listed.size = ops.size) (hC : Closed ops listed) (hi : i ∈ Region.ready .any ops listed) (hF : Fr ops a0 vals listed b) (hV : NV s c a1 a2 c1 c2 t la lc bb vals)
    (hM : NM W0 (finiteR s.types) la (listed.getD 1 false) (listed.getD 3 false) v)
    (hs : Slots ops a0.tmps.size) (ho : ops[i]? = some o) (hg : o.guard = none) (h9 : i ≠ 1 ∧ i ≠ 3) (hr : (execOp b.eval o).run Try.prog v = .ok (.value (vals i)) v) :
    wpOp Try.prog ops Q i (fun b' v' => NJ W0 s c a1 a2 c1 c2 t bb ops a0 (listed.setIfInBounds i true) b' v') b v := by
  refine wpOp_run ho hg hr ⟨by simp [hz], hC.put hi, vals, la, lc, hF.put hs hz ho, hV, ?_⟩
  simp only [getD_setF]
  simpa [h9.1, h9.2] using hM
set_option maxRecDepth 100000 in
set_option maxHeartbeats 8000000 in
theorem Finite_ref (s : Sz) (u : Tz) (t : C4) (c : C4) (a1 a2 : Option Addr) (us : List (List UInt8 × C4)) (gs : List (List UInt8 × G6)) (c1 c2 : Nat) (w : World) (hV : SzV w (Any w) s c a1 us a2 gs) (hT : TzV w (Any w) u t) (hl : s.types.length ≤ 1000000) (hf : SzFit s) (hfu : fitZ u = true) :
    Calls Try.prog 21 #[.agg #[.int .i64 c.k, .string c.n, .slice c.an c.ln c.cn, .slice c.ak c.lk c.ck, .slice a1 s.types.length c1, .slice a2 s.sigs.length c2], .agg #[.int .i64 t.k, .string t.n, .slice t.an t.ln t.cn, .slice t.ak t.lk t.ck]] w fun e w' => e = .returned (.bool (endsR (inR (finiteR s.types)) u)) ∧ Below w.heap.size w w' := by
  obtain ⟨W0, hW0⟩ : ∃ W0, W0 = (w.alloc (.cells #[.int .i64 c.k, .string c.n, .slice c.an c.ln c.cn, .slice c.ak c.lk c.ck, .slice a1 s.types.length c1, .slice a2 s.sigs.length c2] 29)).alloc (.cells #[.int .i64 t.k, .string t.n, .slice t.an t.ln t.cn, .slice t.ak t.lk t.ck] 25) := ⟨_, rfl⟩
  have hb0 : Below w.heap.size w W0 := by rw [hW0]; exact ((Below.refl _ _).alloc (Nat.le_refl _) _).alloc (by simp) _
  have hz0 : W0.heap.size = w.heap.size + 2 := by rw [hW0]; simp
  have hs0 : W0.heap[w.heap.size]? = some (.cells #[.int .i64 c.k, .string c.n, .slice c.an c.ln c.cn, .slice c.ak c.lk c.ck, .slice a1 s.types.length c1, .slice a2 s.sigs.length c2] 29 (0, 0)) := by rw [hW0, blk_if, if_neg (by simp), blk_if, if_pos rfl]
  have ho0 : W0.heap[w.heap.size + 1]? = some (.cells #[.int .i64 t.k, .string t.n, .slice t.an t.ln t.cn, .slice t.ak t.lk t.ck] 25 (0, 0)) := by rw [hW0, blk_if, if_pos (by simp)]
  have HV := Lib.hid hV; have HT := Lib.hid hT; have HW0 := Lib.hid hW0; have HB0 := Lib.hid hb0; have HS0 := Lib.hid hs0; have HO0 := Lib.hid ho0; have HFT := Lib.hid hf; have HFU := Lib.hid hfu
  clear hV hT hW0 hb0 hs0 ho0 hf hfu
  go_enter Try.func21, Try.ntmps21
  go_wp2_with fail
  rw [← HW0.out]
  refine wp_region_by (NJ W0.drew s c a1 a2 c1 c2 t (endsR (inR (finiteR s.types)) u)) (by kernel_rfl) ?_ ?_ ?_
  · exact ⟨by simp, Closed.start _, fun i => match i with
      | 0 => .agg #[.int .i64 c.k, .string c.n, .slice c.an c.ln c.cn, .slice c.ak c.lk c.ck, .slice a1 s.types.length c1, .slice a2 s.sigs.length c2]
      | 1 => .slice none (finiteR s.types).length 0
      | 2 => .agg #[.int .i64 t.k, .string t.n, .slice t.an t.ln t.cn, .slice t.ak t.lk t.ck]
      | _ => .bool (endsR (inR (finiteR s.types)) u), none, 0, Fr.start _ _ _, ⟨rfl, rfl, rfl, rfl, rfl⟩, by simp only [rep_getD]; exact ⟨Below.refl _ _, (fun h => by cases h), (fun h => by cases h)⟩⟩
  · intro listed b v q hJ hi
    obtain ⟨hsz, hC, vals, la, lc, hF, hV, hM⟩ := hJ
    obtain ⟨hl1, hiN⟩ := not_up hsz hi
    obtain ⟨_, o, ho, hdeps⟩ := mem_ready.1 hi
    have hiN : q < 5 := hiN
    obtain rfl | rfl | rfl | rfl | rfl : q = 0 ∨ q = 1 ∨ q = 2 ∨ q = 3 ∨ q = 4 := by omega
    · cases ho
      obtain ⟨⟨y0, y1, y2, y3, y4, y5⟩, _⟩ := six_blkF ((Below.block (Below.of_drew hM.below) w.heap.size (by omega)).trans HS0.out)
      have e2 := hF.old_is 2 (by rfl) rfl
      refine NJ.quiet hsz hC hi hF hV hM (Slots.of (by rfl)) rfl rfl (by decide) ?_
      rw [hV.v0]
      simp [execOp, go_sem, e2, y0, y1, y2, y3, y4, y5]
    · cases ho
      have l3 : listed.getD 3 false = false := by
        cases hh : listed.getD 3 false
        · rfl
        · have y0 := hC 3 _ rfl hh ⟨1, .data⟩ (by simp) rfl; rw [hl1] at y0; cases y0
      have e5 := hF.up 0 5 rfl (hdeps ⟨0, .data⟩ (by simp) rfl)
      rw [hV.v0] at e5
      rw [hl1, l3] at hM
      have hbv := Below.of_drew hM.below
      have CT := finite_ref s c a1 a2 us gs c1 c2 v (HV.out.up (HB0.out.trans (hbv.mono (by omega)))) hl HFT.out
      refine wpOp_call (f := 45) (args := #[.agg #[.int .i64 c.k, .string c.n, .slice c.an c.ln c.cn, .slice c.ak c.lk c.ck, .slice a1 s.types.length c1, .slice a2 s.sigs.length c2]]) rfl rfl (by simp [execOp, go_sem, e5]) CT ?_
      rintro e w' ⟨la', lc', rfl, hr, hb⟩
      refine ⟨_, rfl, ?_⟩
      obtain ⟨vals', hvals⟩ : ∃ vals' : Nat → Value, vals' = fun q => if q = 1 then (Value.slice la' (finiteR s.types).length lc') else vals q := ⟨_, rfl⟩
      have hF' : Fr _ _ vals' listed b := hF.congr (fun i h => by rw [hvals]; exact (if_neg (by rintro rfl; rw [hl1] at h; cases h)))
      have hV' : NV s c a1 a2 c1 c2 t la' lc' (endsR (inR (finiteR s.types)) u) vals' := by rw [hvals]; exact ⟨hV.v0, rfl, hV.v2, hV.v3, hV.v4⟩
      have hn : vals' 1 = .slice la' (finiteR s.types).length lc' := by rw [hvals]; rfl
      refine ⟨by simpa using hsz, hC.put hi, vals', la', lc', hn ▸ hF'.put (Slots.of (by rfl)) hsz rfl, hV', ?_⟩
      rw [getD_setE (i := 1) (by simp [hsz]), getD_setN (show 1 ≠ 3 by decide), l3]
      exact ⟨hM.below.trans (hb.mono hM.below.size), fun _ => hr, (fun h => by cases h)⟩
    · cases ho
      obtain ⟨⟨y0, y1, y2, y3⟩, _⟩ := four_blk ((Below.block (Below.of_drew hM.below) (w.heap.size + 1) (by omega)).trans HO0.out)
      have e3 := hF.old_is 3 (by rfl) rfl
      refine NJ.quiet hsz hC hi hF hV hM (Slots.of (by rfl)) rfl rfl (by decide) ?_
      rw [hV.v2]
      simp [execOp, go_sem, e3, y0, y1, y2, y3]
    · cases ho
      have l1 := hdeps ⟨1, .data⟩ (by simp) rfl
      have e6 := hF.up 1 6 rfl (hdeps ⟨1, .data⟩ (by simp) rfl)
      rw [hV.v1] at e6
      have e7 := hF.up 2 7 rfl (hdeps ⟨2, .data⟩ (by simp) rfl)
      rw [hV.v2] at e7
      rw [l1, hl1] at hM
      have CT := ends_ref (finiteR s.types) (by have := finR_len s.types (s.types.length + 1); unfold maxLen; unfold finiteR; omega) u HFU.out t la lc v (HT.out.grow (HB0.out.trans ((Below.of_drew hM.below).mono (by omega)))) (hM.row rfl)
      refine wpOp_call (f := 49) (args := #[.slice la (finiteR s.types).length lc, .agg #[.int .i64 t.k, .string t.n, .slice t.an t.ln t.cn, .slice t.ak t.lk t.ck]]) rfl rfl (by simp [execOp, go_sem, e6, e7]) CT ?_
      rintro e w' ⟨rfl, hb⟩
      refine ⟨_, rfl, ?_⟩
      have hn := hV.v3
      refine ⟨by simpa using hsz, hC.put hi, vals, la, lc, hn ▸ hF.put (Slots.of (by rfl)) hsz rfl, hV, ?_⟩
      rw [getD_setE (i := 3) (by simp [hsz]), getD_setN (show 3 ≠ 1 by decide), l1]
      exact ⟨hM.below.trans (hb.mono hM.below.size), fun _ => (hM.row rfl).up hb, fun _ => rfl⟩
    · cases ho
      have e8 := hF.up 3 8 rfl (hdeps ⟨3, .data⟩ (by simp) rfl)
      rw [hV.v3] at e8
      refine NJ.quiet hsz hC hi hF hV hM (Slots.of (by rfl)) rfl rfl (by decide) ?_
      rw [hV.v4]
      simp [execOp, go_sem, e8]
  · intro listed b v hJ hr
    obtain ⟨hsz, hC, vals, la, lc, hF, hV, hM⟩ := hJ
    have hall := all_upB (by rfl) hsz hr
    have hb : b = putAll _ vals _ 5 := hF.done (Slots.of (by rfl)) hall
    subst hb
    simp only [putAll, hV.v0, hV.v1, hV.v2, hV.v3, hV.v4]
    simp [dstOf]
    have HBL := Lib.hid (HB0.out.trans ((Below.of_drew hM.below).mono (by omega)))
    clear hM hF hV hC hall hr hsz
    go_wp2
    go_ret
    exact ⟨rfl, HBL.out⟩

/-! ### Open -/
def openR (l : List NT) : Nat → Tz → Tz
  | 0, t => t
  | f + 1, .mk k nm ns ks => if k = 9 then openR l f (firstZ l nm) else .mk k nm ns ks
theorem openR_not (l : List NT) (f : Nat) (t : Tz) (h : t.kind ≠ 9) : openR l f t = t := by
  cases f with
  | zero => rfl
  | succ f => obtain ⟨k, nm, ns, ks⟩ := t; rw [openR]; exact if_neg h
structure OpR (w : World) (bc : Array Value) (S : Nat → Prop) (l : List NT) (full : Tz) (v5 : Value) (wr : World) (k : Nat) (t : Tz) (ct : C4) : Prop where
  slot : v5 = .int .i64 k
  le : k ≤ l.length + 1
  rest : openR l (l.length + 1 - k) t = full
  val : TzV wr S t ct
  box : wr.heap[w.heap.size]? = some (.cells bc 29 (0, 0))
  var : wr.heap[w.heap.size + 1]? = some (.cells #[.int .i64 ct.k, .string ct.n, .slice ct.an ct.ln ct.cn, .slice ct.ak ct.lk ct.ck] 25 (0, 0))
  zer : wr.heap[w.heap.size + 2]? = some (.cells #[.int .i64 0, .string ⟨#[]⟩, .slice none 0 0, .slice none 0 0] 25 (0, 0))
  size : w.heap.size + 3 ≤ wr.heap.size
  below : Below w.heap.size w wr
set_option maxRecDepth 100000 in
set_option maxHeartbeats 8000000 in
theorem Open_ref (S : Nat → Prop) (s : Sz) (u : Tz) (t : C4) (c : C4) (a1 a2 : Option Addr) (us : List (List UInt8 × C4)) (gs : List (List UInt8 × G6)) (c1 c2 : Nat) (w : World) (hS : ∀ g, S g → g < w.heap.size) (hV : SzV w S s c a1 us a2 gs) (hT : TzV w S u t) (hl : s.types.length ≤ 1000000) :
    Calls Try.prog 71 #[.agg #[.int .i64 c.k, .string c.n, .slice c.an c.ln c.cn, .slice c.ak c.lk c.ck, .slice a1 s.types.length c1, .slice a2 s.sigs.length c2], .agg #[.int .i64 t.k, .string t.n, .slice t.an t.ln t.cn, .slice t.ak t.lk t.ck]] w fun e w' => ∃ ct : C4, e = .returned (.agg #[.int .i64 ct.k, .string ct.n, .slice ct.an ct.ln ct.cn, .slice ct.ak ct.lk ct.ck]) ∧ TzV w' S (openR s.types (s.types.length + 1) u) ct ∧ Below w.heap.size w w' := by
  obtain ⟨W0, hW0⟩ : ∃ W0, W0 = ((w.alloc (.cells #[.int .i64 c.k, .string c.n, .slice c.an c.ln c.cn, .slice c.ak c.lk c.ck, .slice a1 s.types.length c1, .slice a2 s.sigs.length c2] 29)).alloc (.cells #[.int .i64 t.k, .string t.n, .slice t.an t.ln t.cn, .slice t.ak t.lk t.ck] 25)).alloc (.cells #[.int .i64 0, .string ⟨#[]⟩, .slice none 0 0, .slice none 0 0] 25) := ⟨_, rfl⟩
  have hb0 : Below w.heap.size w W0 := by rw [hW0]; exact (((Below.refl _ _).alloc (Nat.le_refl _) _).alloc (by simp) _).alloc (by simp; omega) _
  have hz0 : W0.heap.size = w.heap.size + 3 := by rw [hW0]; simp
  have hs0 : W0.heap[w.heap.size]? = some (.cells #[.int .i64 c.k, .string c.n, .slice c.an c.ln c.cn, .slice c.ak c.lk c.ck, .slice a1 s.types.length c1, .slice a2 s.sigs.length c2] 29 (0, 0)) := by rw [hW0, blk_if, if_neg (by simp; omega), blk_if, if_neg (by simp), blk_if, if_pos rfl]
  have ht0 : W0.heap[w.heap.size + 1]? = some (.cells #[.int .i64 t.k, .string t.n, .slice t.an t.ln t.cn, .slice t.ak t.lk t.ck] 25 (0, 0)) := by rw [hW0, blk_if, if_neg (by simp), blk_if, if_pos (by simp)]
  have ho0 : W0.heap[w.heap.size + 2]? = some (.cells #[.int .i64 0, .string ⟨#[]⟩, .slice none 0 0, .slice none 0 0] 25 (0, 0)) := by rw [hW0, blk_if, if_pos (by simp)]
  have HSS := Lib.hid hS; have HV := Lib.hid hV; have HT := Lib.hid hT; have HW0 := Lib.hid hW0; have HB0 := Lib.hid hb0; have HS0 := Lib.hid hs0; have HO0 := Lib.hid ho0; have HT0 := Lib.hid ht0
  clear hS hV hT hW0 hb0 hs0 ho0 ht0
  generalize hfull : openR s.types (s.types.length + 1) u = full
  have HFU := Lib.hid hfull
  clear hfull
  go_enter Try.func71, Try.ntmps71
  go_wp2_with fail
  rw [← HW0.out]
  go_wp2_with fail
  go_loopw [5] (fun v5 wr => ∃ k x ct, OpR w #[.int .i64 c.k, .string c.n, .slice c.an c.ln c.cn, .slice c.ak c.lk c.ck, .slice a1 s.types.length c1, .slice a2 s.sigs.length c2] S s.types full v5 wr k x ct) (fun v5 _ => s.types.length + 1 - (intOf v5).toNat)
  case atStart => exact ⟨0, u, t, rfl, Nat.zero_le _, HFU.out, HT.out.keep (fun _ h => h) (fun g hg => HB0.out.block g (HSS.out g hg)), HS0.out, HT0.out, HO0.out, by omega, HB0.out⟩
  case round =>
    obtain ⟨k, x, ⟨ck, cn, can, cln, ccn, cak, clk, cck⟩, h⟩ := hrel
    obtain rfl := h.slot
    have hle := h.le
    have hsz := h.size
    obtain ⟨⟨s0, s1, s2, s3, s4, s5⟩, _⟩ := six_blkF h.box
    obtain ⟨⟨t0, t1, t2, t3⟩, ⟨r0, r1, r2, r3⟩⟩ := four_blk h.var
    have hkd := h.val.kindZ
    simp only at hkd t0 t1 t2 t3 r0 r1 r2 r3
    have H := Lib.hid h
    clear h
    by_cases hk : k ≤ s.types.length
    · have hkz : (k : Int) ≤ (s.types.length : Int) := by omega
      by_cases h9 : ck = 9
      · obtain ⟨k', nm, ns, ks⟩ := x
        obtain rfl : k' = 9 := by rw [h9] at hkd; exact hkd.symm
        have hcn : cn = ⟨nm.toArray⟩ := by have := H.out.val; cases this; rfl
        subst h9 hcn
        clear hkd
        have CD := Def_ref S s nm c a1 a2 us gs c1 c2 wr (fun g hg => by have := HSS.out g hg; omega) (HV.out.keep (fun g hg => H.out.below.block g (HSS.out g hg))) (by unfold maxLen; omega)
        have hrs : openR s.types (s.types.length + 1 - (k + 1)) (firstZ s.types nm) = full := by
          have := H.out.rest
          rw [show s.types.length + 1 - k = (s.types.length + 1 - (k + 1)) + 1 by omega, openR, if_pos rfl] at this
          exact this
        have HCD := Lib.hid CD; have HRS := Lib.hid hrs
        clear CD hrs
        go_wp2_with (go_at_call 88; (with_reducible refine HCD.out.mono ?_); rintro e w2 ⟨ct, rfl, hv2, x2⟩; have hz2 := x2.size; obtain ⟨⟨m0, m1, m2, m3⟩, ⟨l0, l1, l2, l3⟩⟩ := four_blk ((x2.block (w.heap.size + 1) (by omega)).trans H.out.var); have HX2 := Lib.hid x2; have HV2 := Lib.hid hv2; clear x2 hv2)
        have hPO := put4_only w2 (w.heap.size + 1) ct
        have e1 := put4_at ((HX2.out.block (w.heap.size + 1) (by omega)).trans H.out.var) ct
        have e2 := hPO.blk ((HX2.out.block w.heap.size (by omega)).trans H.out.box) (by omega)
        have e3 := hPO.blk ((HX2.out.block (w.heap.size + 2) (by omega)).trans H.out.zer) (by omega)
        have e4 := (H.out.below.trans (HX2.out.mono (by omega))).trans (hPO.below (by omega) (by omega))
        have e5 := HV2.out.keep (S' := S) (fun _ h => h) (fun g hg => hPO.block g (by have := HSS.out g hg; omega) (fun e => by cases e; have := HSS.out _ hg; omega))
        have e6 : w.heap.size + 3 ≤ (put4 w2 (w.heap.size + 1) ct).heap.size := by rw [put4_size]; omega
        unfold put4 at e1 e2 e3 e4 e5 e6
        have E1 := Lib.hid e1; have E2 := Lib.hid e2; have E3 := Lib.hid e3; have E4 := Lib.hid e4; have E5 := Lib.hid e5; have E6 := Lib.hid e6
        clear e1 e2 e3 e4 e5 e6 hPO
        go_roundw
        case rel => exact ⟨k + 1, _, ct, by go_num, by omega, HRS.out, E5.out, E2.out, E1.out, E3.out, E6.out, E4.out⟩
        case measure => simp [intOf]; omega
      · have t9 : (ck == 9) = false := by rw [beq_eq_false_iff_ne]; exact h9
        have he : x = full := by rw [← H.out.rest, openR_not _ _ _ (by rw [← hkd]; exact h9)]
        have HE := Lib.hid he
        clear he hkd h9
        obtain ⟨⟨z0, z1, z2, z3⟩, ⟨f0, f1, f2, f3⟩⟩ := four_blk H.out.zer
        obtain ⟨⟨v0, v1, v2, v3⟩, _⟩ := four_blk (put4_at H.out.zer ⟨ck, cn, can, cln, ccn, cak, clk, cck⟩)
        have hPO := put4_only wr (w.heap.size + 2) ⟨ck, cn, can, cln, ccn, cak, clk, cck⟩
        have HBL := Lib.hid (H.out.below.trans (hPO.below (by omega) (by omega)))
        have HVL := Lib.hid (H.out.val.keep (fun _ h => h) (fun g hg => hPO.block g (by have := HSS.out g hg; omega) (fun e => by cases e; have := HSS.out _ hg; omega)))
        clear hPO
        unfold put4 at v0 v1 v2 v3
        go_wp2
        refine bodyPost_ret (v := .agg #[.int .i64 ck, .string cn, .slice can cln ccn, .slice cak clk cck]) (by simp [results, Try.results71, go_sem, v0, v1, v2, v3]) rfl ?_
        exact ⟨⟨ck, cn, can, cln, ccn, cak, clk, cck⟩, rfl, by rw [← HE.out]; exact HVL.out, HBL.out⟩
    · have hkz : ¬ (k : Int) ≤ (s.types.length : Int) := by omega
      have he : x = full := by rw [← H.out.rest, show s.types.length + 1 - k = 0 by omega]; rfl
      have HE := Lib.hid he
      clear he hkd
      obtain ⟨⟨z0, z1, z2, z3⟩, ⟨f0, f1, f2, f3⟩⟩ := four_blk H.out.zer
      obtain ⟨⟨v0, v1, v2, v3⟩, _⟩ := four_blk (put4_at H.out.zer ⟨ck, cn, can, cln, ccn, cak, clk, cck⟩)
      have hPO := put4_only wr (w.heap.size + 2) ⟨ck, cn, can, cln, ccn, cak, clk, cck⟩
      have HBL := Lib.hid (H.out.below.trans (hPO.below (by omega) (by omega)))
      have HVL := Lib.hid (H.out.val.keep (fun _ h => h) (fun g hg => hPO.block g (by have := HSS.out g hg; omega) (fun e => by cases e; have := HSS.out _ hg; omega)))
      clear hPO
      unfold put4 at v0 v1 v2 v3
      go_wp2
      refine bodyPost_ret (v := .agg #[.int .i64 ck, .string cn, .slice can cln ccn, .slice cak clk cck]) (by simp [results, Try.results71, go_sem, v0, v1, v2, v3]) rfl ?_
      exact ⟨⟨ck, cn, can, cln, ccn, cak, clk, cck⟩, rfl, by rw [← HE.out]; exact HVL.out, HBL.out⟩
end Sp
end Go.Proofs.Ytjjpjkkaogfoaaa

namespace Go.Proofs.Ytjjpjkkaogfoaaa
open Go.RowKit
namespace Sp
open Sc

theorem leB_nil {n : List UInt8} (h : identB n = true) : (Op.bytesLess n [] || n == []) = false := by
  cases n with
  | nil => simp [identB] at h
  | cons a l => simp [Op.bytesLess]
/-- The name ahead. -/
def prevN (ns : List (List UInt8)) (i : Nat) : List UInt8 := if i = 0 then [] else ns.getD (i - 1) []
theorem namesE_drop {tk : List UInt8 → Bool} {a : List UInt8} {ns : List (List UInt8)} {i : Nat} (h : i < ns.length) : namesE tk a (ns.drop i) = if nameE a ns[i] (tk ns[i]) = 0 then namesE tk ns[i] (ns.drop (i + 1)) else nameE a ns[i] (tk ns[i]) := by rw [List.drop_eq_getElem_cons h, namesE]
theorem below_dNZ {n : Nat} {w w' : World} (h : Below n w w') (k : Nat) : Below n w (w'.drewN k) := ⟨h.os, h.tape, h.output, h.size, h.block⟩
structure OwR (w W0 : World) (ns : List (List UInt8)) (kv : Value) (wr : World) (i : Nat) : Prop where
  slot : kv = .int .i64 i
  le : i ≤ ns.length
  names : namesE (fun _ => false) [] ns = namesE (fun _ => false) (prevN ns i) (ns.drop i)
  same : ∀ g : Nat, wr.heap[g]? = W0.heap[g]?
  below : Below w.heap.size w wr
set_option maxRecDepth 100000 in
set_option maxHeartbeats 8000000 in
theorem own_1 (s : Sz) (k : Int) (hk0 : k = 1) (nm : List UInt8) (ns : List (List UInt8)) (ks : List Tz) (an ak : Option Addr) (cn ck : Nat) (c : C4) (a1 a2 : Option Addr) (us : List (List UInt8 × C4)) (gs : List (List UInt8 × G6)) (c1 c2 : Nat) (w : World) (hV : SzV w (Any w) s c a1 us a2 gs) (hN : RowV w (Any w) an 1 (ns.map fun n => [str n])) (_hl : s.types.length ≤ maxLen) (hf : fitZ (.mk k nm ns ks) = true) :
    Calls Try.prog 70 #[.agg #[.int .i64 c.k, .string c.n, .slice c.an c.ln c.cn, .slice c.ak c.lk c.ck, .slice a1 s.types.length c1, .slice a2 s.sigs.length c2], .agg #[.int .i64 k, .string ⟨nm.toArray⟩, .slice an ns.length cn, .slice ak ks.length ck]] w fun e w' => e = .returned (.int .i64 (ownE (hasZ s.types) k nm ns ks.length)) ∧ Below w.heap.size w w' := by
  subst hk0
  obtain ⟨f1, f2, f3, f4, _⟩ := fitZ_mk hf
  unfold maxLen at f2 f4
  obtain ⟨W0, hW0⟩ : ∃ W0, W0 = (w.alloc (.cells #[.int .i64 c.k, .string c.n, .slice c.an c.ln c.cn, .slice c.ak c.lk c.ck, .slice a1 s.types.length c1, .slice a2 s.sigs.length c2] 29)).alloc (.cells #[.int .i64 1, .string ⟨nm.toArray⟩, .slice an ns.length cn, .slice ak ks.length ck] 25) := ⟨_, rfl⟩
  have hb0 : Below w.heap.size w W0 := by rw [hW0]; exact ((Below.refl _ _).alloc (Nat.le_refl _) _).alloc (by simp) _
  have hz0 : W0.heap.size = w.heap.size + 2 := by rw [hW0]; simp
  have ht0 : W0.heap[w.heap.size + 1]? = some (.cells #[.int .i64 1, .string ⟨nm.toArray⟩, .slice an ns.length cn, .slice ak ks.length ck] 25 (0, 0)) := by rw [hW0, blk_if, if_pos (by simp)]
  obtain ⟨⟨p0, p1, p2, p3⟩, _⟩ := four_blk ht0
  have hs0 : W0.heap[w.heap.size]? = some (.cells #[.int .i64 c.k, .string c.n, .slice c.an c.ln c.cn, .slice c.ak c.lk c.ck, .slice a1 s.types.length c1, .slice a2 s.sigs.length c2] 29 (0, 0)) := by rw [hW0, blk_if, if_neg (by simp), blk_if, if_pos rfl]
  obtain ⟨⟨s0, s1, s2, s3, s4, s5⟩, _⟩ := six_blkF hs0
  have e0 := toList_mk' nm
  have HV := Lib.hid hV; have HN := Lib.hid hN; have HW0 := Lib.hid hW0; have HB0 := Lib.hid hb0; have HT0 := Lib.hid ht0
  have HFN : Hid (∀ i (h : i < ns.length), ns[i].length ≤ maxLen) := f3
  clear hV hN hW0 hb0 ht0 hf f3 hs0
  generalize hE0 : ownE (hasZ s.types) 1 nm ns ks.length = E0
  have HE0 := Lib.hid hE0
  clear hE0
  go_enter Try.func70, Try.ntmps70
  go_upto_region 1 with fail
  rw [← HW0.out]
  by_cases hk : ks.length = 0
  · obtain rfl : ks = [] := List.eq_nil_of_length_eq_zero hk
    by_cases hn : nm = []
    · subst hn
      by_cases hs : ns.length = 0
      · obtain rfl : ns = [] := List.eq_nil_of_length_eq_zero hs
        have hf : formB 1 [] [] ([] : List Tz).length = true := by unfold formB kidsN; simp
        have hE : E0 = 0 := HE0.out.symm.trans (by unfold ownE; rw [if_neg (by omega), hf, if_neg (by simp), if_neg (by omega)]; simp [fieldE, namesE])
        have HE := Lib.hid hE; have HF := Lib.hid hf; have HK := Lib.hid hk
        clear hE hf hk
        go_wp2
        go_loop [9] (fun kv => kv = .int .i64 0) (fun _ => 0)
        case atStart => rfl
        case round =>
          obtain rfl := hrel
          go_wp2
          go_ret
          exact ⟨ret_intZ (by rw [HE.out]; rfl), HB0.out⟩
      · have ts : ¬ ns = [] := fun e => hs (by rw [e]; rfl)
        have hE : E0 = 12 := HE0.out.symm.trans (by unfold ownE; rw [if_neg (by omega), if_pos (by unfold formB; simp; intros; assumption)])
        have HE := Lib.hid hE; have HK := Lib.hid hk
        clear hE hk
        go_wp2
        go_ret
        exact ⟨ret_intZ (by rw [HE.out]; rfl), HB0.out⟩
    · have tn : (nm == []) = false := by rw [beq_eq_false_iff_ne]; exact hn
      have hE : E0 = 12 := HE0.out.symm.trans (by unfold ownE; rw [if_neg (by omega), if_pos (by unfold formB; simp [hn])])
      have HE := Lib.hid hE; have HK := Lib.hid hk
      clear hE hk
      go_wp2
      go_ret
      exact ⟨ret_intZ (by rw [HE.out]; rfl), HB0.out⟩
  · have tk : ¬ ks = [] := fun e => hk (by rw [e]; rfl)
    have hE : E0 = 12 := HE0.out.symm.trans (by unfold ownE; rw [if_neg (by omega), if_pos (by unfold formB kidsN; simp [hk])])
    have HE := Lib.hid hE; have HK := Lib.hid hk
    clear hE hk
    go_wp2
    go_ret
    exact ⟨ret_intZ (by rw [HE.out]; rfl), HB0.out⟩
set_option maxRecDepth 100000 in
set_option maxHeartbeats 8000000 in
theorem own_2 (s : Sz) (k : Int) (hk0 : k = 2) (nm : List UInt8) (ns : List (List UInt8)) (ks : List Tz) (an ak : Option Addr) (cn ck : Nat) (c : C4) (a1 a2 : Option Addr) (us : List (List UInt8 × C4)) (gs : List (List UInt8 × G6)) (c1 c2 : Nat) (w : World) (hV : SzV w (Any w) s c a1 us a2 gs) (hN : RowV w (Any w) an 1 (ns.map fun n => [str n])) (_hl : s.types.length ≤ maxLen) (hf : fitZ (.mk k nm ns ks) = true) :
    Calls Try.prog 70 #[.agg #[.int .i64 c.k, .string c.n, .slice c.an c.ln c.cn, .slice c.ak c.lk c.ck, .slice a1 s.types.length c1, .slice a2 s.sigs.length c2], .agg #[.int .i64 k, .string ⟨nm.toArray⟩, .slice an ns.length cn, .slice ak ks.length ck]] w fun e w' => e = .returned (.int .i64 (ownE (hasZ s.types) k nm ns ks.length)) ∧ Below w.heap.size w w' := by
  subst hk0
  obtain ⟨f1, f2, f3, f4, _⟩ := fitZ_mk hf
  unfold maxLen at f2 f4
  obtain ⟨W0, hW0⟩ : ∃ W0, W0 = (w.alloc (.cells #[.int .i64 c.k, .string c.n, .slice c.an c.ln c.cn, .slice c.ak c.lk c.ck, .slice a1 s.types.length c1, .slice a2 s.sigs.length c2] 29)).alloc (.cells #[.int .i64 2, .string ⟨nm.toArray⟩, .slice an ns.length cn, .slice ak ks.length ck] 25) := ⟨_, rfl⟩
  have hb0 : Below w.heap.size w W0 := by rw [hW0]; exact ((Below.refl _ _).alloc (Nat.le_refl _) _).alloc (by simp) _
  have hz0 : W0.heap.size = w.heap.size + 2 := by rw [hW0]; simp
  have ht0 : W0.heap[w.heap.size + 1]? = some (.cells #[.int .i64 2, .string ⟨nm.toArray⟩, .slice an ns.length cn, .slice ak ks.length ck] 25 (0, 0)) := by rw [hW0, blk_if, if_pos (by simp)]
  obtain ⟨⟨p0, p1, p2, p3⟩, _⟩ := four_blk ht0
  have hs0 : W0.heap[w.heap.size]? = some (.cells #[.int .i64 c.k, .string c.n, .slice c.an c.ln c.cn, .slice c.ak c.lk c.ck, .slice a1 s.types.length c1, .slice a2 s.sigs.length c2] 29 (0, 0)) := by rw [hW0, blk_if, if_neg (by simp), blk_if, if_pos rfl]
  obtain ⟨⟨s0, s1, s2, s3, s4, s5⟩, _⟩ := six_blkF hs0
  have e0 := toList_mk' nm
  have HV := Lib.hid hV; have HN := Lib.hid hN; have HW0 := Lib.hid hW0; have HB0 := Lib.hid hb0; have HT0 := Lib.hid ht0
  have HFN : Hid (∀ i (h : i < ns.length), ns[i].length ≤ maxLen) := f3
  clear hV hN hW0 hb0 ht0 hf f3 hs0
  generalize hE0 : ownE (hasZ s.types) 2 nm ns ks.length = E0
  have HE0 := Lib.hid hE0
  clear hE0
  go_enter Try.func70, Try.ntmps70
  go_upto_region 1 with fail
  rw [← HW0.out]
  by_cases hk : ks.length = 0
  · obtain rfl : ks = [] := List.eq_nil_of_length_eq_zero hk
    by_cases hn : nm = []
    · subst hn
      by_cases hs : ns.length = 0
      · obtain rfl : ns = [] := List.eq_nil_of_length_eq_zero hs
        have hf : formB 2 [] [] ([] : List Tz).length = true := by unfold formB kidsN; simp
        have hE : E0 = 0 := HE0.out.symm.trans (by unfold ownE; rw [if_neg (by omega), hf, if_neg (by simp), if_neg (by omega)]; simp [fieldE, namesE])
        have HE := Lib.hid hE; have HF := Lib.hid hf; have HK := Lib.hid hk
        clear hE hf hk
        go_wp2
        go_loop [9] (fun kv => kv = .int .i64 0) (fun _ => 0)
        case atStart => rfl
        case round =>
          obtain rfl := hrel
          go_wp2
          go_ret
          exact ⟨ret_intZ (by rw [HE.out]; rfl), HB0.out⟩
      · have ts : ¬ ns = [] := fun e => hs (by rw [e]; rfl)
        have hE : E0 = 12 := HE0.out.symm.trans (by unfold ownE; rw [if_neg (by omega), if_pos (by unfold formB; simp; intros; assumption)])
        have HE := Lib.hid hE; have HK := Lib.hid hk
        clear hE hk
        go_wp2
        go_ret
        exact ⟨ret_intZ (by rw [HE.out]; rfl), HB0.out⟩
    · have tn : (nm == []) = false := by rw [beq_eq_false_iff_ne]; exact hn
      have hE : E0 = 12 := HE0.out.symm.trans (by unfold ownE; rw [if_neg (by omega), if_pos (by unfold formB; simp [hn])])
      have HE := Lib.hid hE; have HK := Lib.hid hk
      clear hE hk
      go_wp2
      go_ret
      exact ⟨ret_intZ (by rw [HE.out]; rfl), HB0.out⟩
  · have tk : ¬ ks = [] := fun e => hk (by rw [e]; rfl)
    have hE : E0 = 12 := HE0.out.symm.trans (by unfold ownE; rw [if_neg (by omega), if_pos (by unfold formB kidsN; simp [hk])])
    have HE := Lib.hid hE; have HK := Lib.hid hk
    clear hE hk
    go_wp2
    go_ret
    exact ⟨ret_intZ (by rw [HE.out]; rfl), HB0.out⟩
set_option maxRecDepth 100000 in
set_option maxHeartbeats 8000000 in
theorem own_3 (s : Sz) (k : Int) (hk0 : k = 3) (nm : List UInt8) (ns : List (List UInt8)) (ks : List Tz) (an ak : Option Addr) (cn ck : Nat) (c : C4) (a1 a2 : Option Addr) (us : List (List UInt8 × C4)) (gs : List (List UInt8 × G6)) (c1 c2 : Nat) (w : World) (hV : SzV w (Any w) s c a1 us a2 gs) (hN : RowV w (Any w) an 1 (ns.map fun n => [str n])) (_hl : s.types.length ≤ maxLen) (hf : fitZ (.mk k nm ns ks) = true) :
    Calls Try.prog 70 #[.agg #[.int .i64 c.k, .string c.n, .slice c.an c.ln c.cn, .slice c.ak c.lk c.ck, .slice a1 s.types.length c1, .slice a2 s.sigs.length c2], .agg #[.int .i64 k, .string ⟨nm.toArray⟩, .slice an ns.length cn, .slice ak ks.length ck]] w fun e w' => e = .returned (.int .i64 (ownE (hasZ s.types) k nm ns ks.length)) ∧ Below w.heap.size w w' := by
  subst hk0
  obtain ⟨f1, f2, f3, f4, _⟩ := fitZ_mk hf
  unfold maxLen at f2 f4
  obtain ⟨W0, hW0⟩ : ∃ W0, W0 = (w.alloc (.cells #[.int .i64 c.k, .string c.n, .slice c.an c.ln c.cn, .slice c.ak c.lk c.ck, .slice a1 s.types.length c1, .slice a2 s.sigs.length c2] 29)).alloc (.cells #[.int .i64 3, .string ⟨nm.toArray⟩, .slice an ns.length cn, .slice ak ks.length ck] 25) := ⟨_, rfl⟩
  have hb0 : Below w.heap.size w W0 := by rw [hW0]; exact ((Below.refl _ _).alloc (Nat.le_refl _) _).alloc (by simp) _
  have hz0 : W0.heap.size = w.heap.size + 2 := by rw [hW0]; simp
  have ht0 : W0.heap[w.heap.size + 1]? = some (.cells #[.int .i64 3, .string ⟨nm.toArray⟩, .slice an ns.length cn, .slice ak ks.length ck] 25 (0, 0)) := by rw [hW0, blk_if, if_pos (by simp)]
  obtain ⟨⟨p0, p1, p2, p3⟩, _⟩ := four_blk ht0
  have hs0 : W0.heap[w.heap.size]? = some (.cells #[.int .i64 c.k, .string c.n, .slice c.an c.ln c.cn, .slice c.ak c.lk c.ck, .slice a1 s.types.length c1, .slice a2 s.sigs.length c2] 29 (0, 0)) := by rw [hW0, blk_if, if_neg (by simp), blk_if, if_pos rfl]
  obtain ⟨⟨s0, s1, s2, s3, s4, s5⟩, _⟩ := six_blkF hs0
  have e0 := toList_mk' nm
  have HV := Lib.hid hV; have HN := Lib.hid hN; have HW0 := Lib.hid hW0; have HB0 := Lib.hid hb0; have HT0 := Lib.hid ht0
  have HFN : Hid (∀ i (h : i < ns.length), ns[i].length ≤ maxLen) := f3
  clear hV hN hW0 hb0 ht0 hf f3 hs0
  generalize hE0 : ownE (hasZ s.types) 3 nm ns ks.length = E0
  have HE0 := Lib.hid hE0
  clear hE0
  go_enter Try.func70, Try.ntmps70
  go_upto_region 1 with fail
  rw [← HW0.out]
  by_cases hk : ks.length = 0
  · obtain rfl : ks = [] := List.eq_nil_of_length_eq_zero hk
    by_cases hn : nm = []
    · subst hn
      by_cases hs : ns.length = 0
      · obtain rfl : ns = [] := List.eq_nil_of_length_eq_zero hs
        have hf : formB 3 [] [] ([] : List Tz).length = true := by unfold formB kidsN; simp
        have hE : E0 = 0 := HE0.out.symm.trans (by unfold ownE; rw [if_neg (by omega), hf, if_neg (by simp), if_neg (by omega)]; simp [fieldE, namesE])
        have HE := Lib.hid hE; have HF := Lib.hid hf; have HK := Lib.hid hk
        clear hE hf hk
        go_wp2
        go_loop [9] (fun kv => kv = .int .i64 0) (fun _ => 0)
        case atStart => rfl
        case round =>
          obtain rfl := hrel
          go_wp2
          go_ret
          exact ⟨ret_intZ (by rw [HE.out]; rfl), HB0.out⟩
      · have ts : ¬ ns = [] := fun e => hs (by rw [e]; rfl)
        have hE : E0 = 12 := HE0.out.symm.trans (by unfold ownE; rw [if_neg (by omega), if_pos (by unfold formB; simp; intros; assumption)])
        have HE := Lib.hid hE; have HK := Lib.hid hk
        clear hE hk
        go_wp2
        go_ret
        exact ⟨ret_intZ (by rw [HE.out]; rfl), HB0.out⟩
    · have tn : (nm == []) = false := by rw [beq_eq_false_iff_ne]; exact hn
      have hE : E0 = 12 := HE0.out.symm.trans (by unfold ownE; rw [if_neg (by omega), if_pos (by unfold formB; simp [hn])])
      have HE := Lib.hid hE; have HK := Lib.hid hk
      clear hE hk
      go_wp2
      go_ret
      exact ⟨ret_intZ (by rw [HE.out]; rfl), HB0.out⟩
  · have tk : ¬ ks = [] := fun e => hk (by rw [e]; rfl)
    have hE : E0 = 12 := HE0.out.symm.trans (by unfold ownE; rw [if_neg (by omega), if_pos (by unfold formB kidsN; simp [hk])])
    have HE := Lib.hid hE; have HK := Lib.hid hk
    clear hE hk
    go_wp2
    go_ret
    exact ⟨ret_intZ (by rw [HE.out]; rfl), HB0.out⟩
set_option maxRecDepth 100000 in
set_option maxHeartbeats 8000000 in
theorem own_4 (s : Sz) (k : Int) (hk0 : k = 4) (nm : List UInt8) (ns : List (List UInt8)) (ks : List Tz) (an ak : Option Addr) (cn ck : Nat) (c : C4) (a1 a2 : Option Addr) (us : List (List UInt8 × C4)) (gs : List (List UInt8 × G6)) (c1 c2 : Nat) (w : World) (hV : SzV w (Any w) s c a1 us a2 gs) (hN : RowV w (Any w) an 1 (ns.map fun n => [str n])) (_hl : s.types.length ≤ maxLen) (hf : fitZ (.mk k nm ns ks) = true) :
    Calls Try.prog 70 #[.agg #[.int .i64 c.k, .string c.n, .slice c.an c.ln c.cn, .slice c.ak c.lk c.ck, .slice a1 s.types.length c1, .slice a2 s.sigs.length c2], .agg #[.int .i64 k, .string ⟨nm.toArray⟩, .slice an ns.length cn, .slice ak ks.length ck]] w fun e w' => e = .returned (.int .i64 (ownE (hasZ s.types) k nm ns ks.length)) ∧ Below w.heap.size w w' := by
  subst hk0
  obtain ⟨f1, f2, f3, f4, _⟩ := fitZ_mk hf
  unfold maxLen at f2 f4
  obtain ⟨W0, hW0⟩ : ∃ W0, W0 = (w.alloc (.cells #[.int .i64 c.k, .string c.n, .slice c.an c.ln c.cn, .slice c.ak c.lk c.ck, .slice a1 s.types.length c1, .slice a2 s.sigs.length c2] 29)).alloc (.cells #[.int .i64 4, .string ⟨nm.toArray⟩, .slice an ns.length cn, .slice ak ks.length ck] 25) := ⟨_, rfl⟩
  have hb0 : Below w.heap.size w W0 := by rw [hW0]; exact ((Below.refl _ _).alloc (Nat.le_refl _) _).alloc (by simp) _
  have hz0 : W0.heap.size = w.heap.size + 2 := by rw [hW0]; simp
  have ht0 : W0.heap[w.heap.size + 1]? = some (.cells #[.int .i64 4, .string ⟨nm.toArray⟩, .slice an ns.length cn, .slice ak ks.length ck] 25 (0, 0)) := by rw [hW0, blk_if, if_pos (by simp)]
  obtain ⟨⟨p0, p1, p2, p3⟩, _⟩ := four_blk ht0
  have hs0 : W0.heap[w.heap.size]? = some (.cells #[.int .i64 c.k, .string c.n, .slice c.an c.ln c.cn, .slice c.ak c.lk c.ck, .slice a1 s.types.length c1, .slice a2 s.sigs.length c2] 29 (0, 0)) := by rw [hW0, blk_if, if_neg (by simp), blk_if, if_pos rfl]
  obtain ⟨⟨s0, s1, s2, s3, s4, s5⟩, _⟩ := six_blkF hs0
  have e0 := toList_mk' nm
  have HV := Lib.hid hV; have HN := Lib.hid hN; have HW0 := Lib.hid hW0; have HB0 := Lib.hid hb0; have HT0 := Lib.hid ht0
  have HFN : Hid (∀ i (h : i < ns.length), ns[i].length ≤ maxLen) := f3
  clear hV hN hW0 hb0 ht0 hf f3 hs0
  generalize hE0 : ownE (hasZ s.types) 4 nm ns ks.length = E0
  have HE0 := Lib.hid hE0
  clear hE0
  go_enter Try.func70, Try.ntmps70
  go_upto_region 1 with fail
  rw [← HW0.out]
  by_cases hk : ks.length = 1
  · have tk : ((ks.length : Int) == 1) = true := by rw [beq_iff_eq]; omega
    have tk2 : ((ks.length : Int) != 1) = false := by simp; omega
    by_cases hn : nm = []
    · subst hn
      by_cases hs : ns.length = 0
      · obtain rfl : ns = [] := List.eq_nil_of_length_eq_zero hs
        have hf : formB 4 [] [] (ks : List Tz).length = true := by unfold formB kidsN; simp [hk]
        have hE : E0 = 0 := HE0.out.symm.trans (by unfold ownE; rw [if_neg (by omega), hf, if_neg (by simp), if_neg (by omega)]; simp [fieldE, namesE])
        have HE := Lib.hid hE; have HF := Lib.hid hf; have HK := Lib.hid hk
        clear hE hf hk
        go_wp2
        go_loop [9] (fun kv => kv = .int .i64 0) (fun _ => 0)
        case atStart => rfl
        case round =>
          obtain rfl := hrel
          go_wp2
          go_ret
          exact ⟨ret_intZ (by rw [HE.out]; rfl), HB0.out⟩
      · have ts : ¬ ns = [] := fun e => hs (by rw [e]; rfl)
        have hE : E0 = 12 := HE0.out.symm.trans (by unfold ownE; rw [if_neg (by omega), if_pos (by unfold formB; simp; intros; assumption)])
        have HE := Lib.hid hE; have HK := Lib.hid hk
        clear hE hk
        go_wp2
        go_ret
        exact ⟨ret_intZ (by rw [HE.out]; rfl), HB0.out⟩
    · have tn : (nm == []) = false := by rw [beq_eq_false_iff_ne]; exact hn
      have hE : E0 = 12 := HE0.out.symm.trans (by unfold ownE; rw [if_neg (by omega), if_pos (by unfold formB; simp [hn])])
      have HE := Lib.hid hE; have HK := Lib.hid hk
      clear hE hk
      go_wp2
      go_ret
      exact ⟨ret_intZ (by rw [HE.out]; rfl), HB0.out⟩
  · have tk : ((ks.length : Int) == 1) = false := by rw [beq_eq_false_iff_ne]; omega
    have tk2 : ((ks.length : Int) != 1) = true := by rw [bne_iff_ne]; omega
    have hE : E0 = 12 := HE0.out.symm.trans (by unfold ownE; rw [if_neg (by omega), if_pos (by unfold formB kidsN; simp [hk])])
    have HE := Lib.hid hE; have HK := Lib.hid hk
    clear hE hk
    go_wp2
    go_ret
    exact ⟨ret_intZ (by rw [HE.out]; rfl), HB0.out⟩
set_option maxRecDepth 100000 in
set_option maxHeartbeats 8000000 in
theorem own_5 (s : Sz) (k : Int) (hk0 : k = 5) (nm : List UInt8) (ns : List (List UInt8)) (ks : List Tz) (an ak : Option Addr) (cn ck : Nat) (c : C4) (a1 a2 : Option Addr) (us : List (List UInt8 × C4)) (gs : List (List UInt8 × G6)) (c1 c2 : Nat) (w : World) (hV : SzV w (Any w) s c a1 us a2 gs) (hN : RowV w (Any w) an 1 (ns.map fun n => [str n])) (_hl : s.types.length ≤ maxLen) (hf : fitZ (.mk k nm ns ks) = true) :
    Calls Try.prog 70 #[.agg #[.int .i64 c.k, .string c.n, .slice c.an c.ln c.cn, .slice c.ak c.lk c.ck, .slice a1 s.types.length c1, .slice a2 s.sigs.length c2], .agg #[.int .i64 k, .string ⟨nm.toArray⟩, .slice an ns.length cn, .slice ak ks.length ck]] w fun e w' => e = .returned (.int .i64 (ownE (hasZ s.types) k nm ns ks.length)) ∧ Below w.heap.size w w' := by
  subst hk0
  obtain ⟨f1, f2, f3, f4, _⟩ := fitZ_mk hf
  unfold maxLen at f2 f4
  obtain ⟨W0, hW0⟩ : ∃ W0, W0 = (w.alloc (.cells #[.int .i64 c.k, .string c.n, .slice c.an c.ln c.cn, .slice c.ak c.lk c.ck, .slice a1 s.types.length c1, .slice a2 s.sigs.length c2] 29)).alloc (.cells #[.int .i64 5, .string ⟨nm.toArray⟩, .slice an ns.length cn, .slice ak ks.length ck] 25) := ⟨_, rfl⟩
  have hb0 : Below w.heap.size w W0 := by rw [hW0]; exact ((Below.refl _ _).alloc (Nat.le_refl _) _).alloc (by simp) _
  have hz0 : W0.heap.size = w.heap.size + 2 := by rw [hW0]; simp
  have ht0 : W0.heap[w.heap.size + 1]? = some (.cells #[.int .i64 5, .string ⟨nm.toArray⟩, .slice an ns.length cn, .slice ak ks.length ck] 25 (0, 0)) := by rw [hW0, blk_if, if_pos (by simp)]
  obtain ⟨⟨p0, p1, p2, p3⟩, _⟩ := four_blk ht0
  have hs0 : W0.heap[w.heap.size]? = some (.cells #[.int .i64 c.k, .string c.n, .slice c.an c.ln c.cn, .slice c.ak c.lk c.ck, .slice a1 s.types.length c1, .slice a2 s.sigs.length c2] 29 (0, 0)) := by rw [hW0, blk_if, if_neg (by simp), blk_if, if_pos rfl]
  obtain ⟨⟨s0, s1, s2, s3, s4, s5⟩, _⟩ := six_blkF hs0
  have e0 := toList_mk' nm
  have HV := Lib.hid hV; have HN := Lib.hid hN; have HW0 := Lib.hid hW0; have HB0 := Lib.hid hb0; have HT0 := Lib.hid ht0
  have HFN : Hid (∀ i (h : i < ns.length), ns[i].length ≤ maxLen) := f3
  clear hV hN hW0 hb0 ht0 hf f3 hs0
  generalize hE0 : ownE (hasZ s.types) 5 nm ns ks.length = E0
  have HE0 := Lib.hid hE0
  clear hE0
  go_enter Try.func70, Try.ntmps70
  go_upto_region 1 with fail
  rw [← HW0.out]
  by_cases hk : ks.length = 1
  · have tk : ((ks.length : Int) == 1) = true := by rw [beq_iff_eq]; omega
    have tk2 : ((ks.length : Int) != 1) = false := by simp; omega
    by_cases hn : nm = []
    · subst hn
      by_cases hs : ns.length = 0
      · obtain rfl : ns = [] := List.eq_nil_of_length_eq_zero hs
        have hf : formB 5 [] [] (ks : List Tz).length = true := by unfold formB kidsN; simp [hk]
        have hE : E0 = 0 := HE0.out.symm.trans (by unfold ownE; rw [if_neg (by omega), hf, if_neg (by simp), if_neg (by omega)]; simp [fieldE, namesE])
        have HE := Lib.hid hE; have HF := Lib.hid hf; have HK := Lib.hid hk
        clear hE hf hk
        go_wp2
        go_loop [9] (fun kv => kv = .int .i64 0) (fun _ => 0)
        case atStart => rfl
        case round =>
          obtain rfl := hrel
          go_wp2
          go_ret
          exact ⟨ret_intZ (by rw [HE.out]; rfl), HB0.out⟩
      · have ts : ¬ ns = [] := fun e => hs (by rw [e]; rfl)
        have hE : E0 = 12 := HE0.out.symm.trans (by unfold ownE; rw [if_neg (by omega), if_pos (by unfold formB; simp; intros; assumption)])
        have HE := Lib.hid hE; have HK := Lib.hid hk
        clear hE hk
        go_wp2
        go_ret
        exact ⟨ret_intZ (by rw [HE.out]; rfl), HB0.out⟩
    · have tn : (nm == []) = false := by rw [beq_eq_false_iff_ne]; exact hn
      have hE : E0 = 12 := HE0.out.symm.trans (by unfold ownE; rw [if_neg (by omega), if_pos (by unfold formB; simp [hn])])
      have HE := Lib.hid hE; have HK := Lib.hid hk
      clear hE hk
      go_wp2
      go_ret
      exact ⟨ret_intZ (by rw [HE.out]; rfl), HB0.out⟩
  · have tk : ((ks.length : Int) == 1) = false := by rw [beq_eq_false_iff_ne]; omega
    have tk2 : ((ks.length : Int) != 1) = true := by rw [bne_iff_ne]; omega
    have hE : E0 = 12 := HE0.out.symm.trans (by unfold ownE; rw [if_neg (by omega), if_pos (by unfold formB kidsN; simp [hk])])
    have HE := Lib.hid hE; have HK := Lib.hid hk
    clear hE hk
    go_wp2
    go_ret
    exact ⟨ret_intZ (by rw [HE.out]; rfl), HB0.out⟩
set_option maxRecDepth 100000 in
set_option maxHeartbeats 8000000 in
theorem own_6 (s : Sz) (k : Int) (hk0 : k = 6) (nm : List UInt8) (ns : List (List UInt8)) (ks : List Tz) (an ak : Option Addr) (cn ck : Nat) (c : C4) (a1 a2 : Option Addr) (us : List (List UInt8 × C4)) (gs : List (List UInt8 × G6)) (c1 c2 : Nat) (w : World) (hV : SzV w (Any w) s c a1 us a2 gs) (hN : RowV w (Any w) an 1 (ns.map fun n => [str n])) (_hl : s.types.length ≤ maxLen) (hf : fitZ (.mk k nm ns ks) = true) :
    Calls Try.prog 70 #[.agg #[.int .i64 c.k, .string c.n, .slice c.an c.ln c.cn, .slice c.ak c.lk c.ck, .slice a1 s.types.length c1, .slice a2 s.sigs.length c2], .agg #[.int .i64 k, .string ⟨nm.toArray⟩, .slice an ns.length cn, .slice ak ks.length ck]] w fun e w' => e = .returned (.int .i64 (ownE (hasZ s.types) k nm ns ks.length)) ∧ Below w.heap.size w w' := by
  subst hk0
  obtain ⟨f1, f2, f3, f4, _⟩ := fitZ_mk hf
  unfold maxLen at f2 f4
  obtain ⟨W0, hW0⟩ : ∃ W0, W0 = (w.alloc (.cells #[.int .i64 c.k, .string c.n, .slice c.an c.ln c.cn, .slice c.ak c.lk c.ck, .slice a1 s.types.length c1, .slice a2 s.sigs.length c2] 29)).alloc (.cells #[.int .i64 6, .string ⟨nm.toArray⟩, .slice an ns.length cn, .slice ak ks.length ck] 25) := ⟨_, rfl⟩
  have hb0 : Below w.heap.size w W0 := by rw [hW0]; exact ((Below.refl _ _).alloc (Nat.le_refl _) _).alloc (by simp) _
  have hz0 : W0.heap.size = w.heap.size + 2 := by rw [hW0]; simp
  have ht0 : W0.heap[w.heap.size + 1]? = some (.cells #[.int .i64 6, .string ⟨nm.toArray⟩, .slice an ns.length cn, .slice ak ks.length ck] 25 (0, 0)) := by rw [hW0, blk_if, if_pos (by simp)]
  obtain ⟨⟨p0, p1, p2, p3⟩, _⟩ := four_blk ht0
  have hs0 : W0.heap[w.heap.size]? = some (.cells #[.int .i64 c.k, .string c.n, .slice c.an c.ln c.cn, .slice c.ak c.lk c.ck, .slice a1 s.types.length c1, .slice a2 s.sigs.length c2] 29 (0, 0)) := by rw [hW0, blk_if, if_neg (by simp), blk_if, if_pos rfl]
  obtain ⟨⟨s0, s1, s2, s3, s4, s5⟩, _⟩ := six_blkF hs0
  have e0 := toList_mk' nm
  have HV := Lib.hid hV; have HN := Lib.hid hN; have HW0 := Lib.hid hW0; have HB0 := Lib.hid hb0; have HT0 := Lib.hid ht0
  have HFN : Hid (∀ i (h : i < ns.length), ns[i].length ≤ maxLen) := f3
  clear hV hN hW0 hb0 ht0 hf f3 hs0
  generalize hE0 : ownE (hasZ s.types) 6 nm ns ks.length = E0
  have HE0 := Lib.hid hE0
  clear hE0
  go_enter Try.func70, Try.ntmps70
  go_upto_region 1 with fail
  rw [← HW0.out]
  by_cases hk : ks.length = 1
  · have tk : ((ks.length : Int) == 1) = true := by rw [beq_iff_eq]; omega
    have tk2 : ((ks.length : Int) != 1) = false := by simp; omega
    by_cases hn : nm = []
    · subst hn
      by_cases hs : ns.length = 0
      · obtain rfl : ns = [] := List.eq_nil_of_length_eq_zero hs
        have hf : formB 6 [] [] (ks : List Tz).length = true := by unfold formB kidsN; simp [hk]
        have hE : E0 = 0 := HE0.out.symm.trans (by unfold ownE; rw [if_neg (by omega), hf, if_neg (by simp), if_neg (by omega)]; simp [fieldE, namesE])
        have HE := Lib.hid hE; have HF := Lib.hid hf; have HK := Lib.hid hk
        clear hE hf hk
        go_wp2
        go_loop [9] (fun kv => kv = .int .i64 0) (fun _ => 0)
        case atStart => rfl
        case round =>
          obtain rfl := hrel
          go_wp2
          go_ret
          exact ⟨ret_intZ (by rw [HE.out]; rfl), HB0.out⟩
      · have ts : ¬ ns = [] := fun e => hs (by rw [e]; rfl)
        have hE : E0 = 12 := HE0.out.symm.trans (by unfold ownE; rw [if_neg (by omega), if_pos (by unfold formB; simp; intros; assumption)])
        have HE := Lib.hid hE; have HK := Lib.hid hk
        clear hE hk
        go_wp2
        go_ret
        exact ⟨ret_intZ (by rw [HE.out]; rfl), HB0.out⟩
    · have tn : (nm == []) = false := by rw [beq_eq_false_iff_ne]; exact hn
      have hE : E0 = 12 := HE0.out.symm.trans (by unfold ownE; rw [if_neg (by omega), if_pos (by unfold formB; simp [hn])])
      have HE := Lib.hid hE; have HK := Lib.hid hk
      clear hE hk
      go_wp2
      go_ret
      exact ⟨ret_intZ (by rw [HE.out]; rfl), HB0.out⟩
  · have tk : ((ks.length : Int) == 1) = false := by rw [beq_eq_false_iff_ne]; omega
    have tk2 : ((ks.length : Int) != 1) = true := by rw [bne_iff_ne]; omega
    have hE : E0 = 12 := HE0.out.symm.trans (by unfold ownE; rw [if_neg (by omega), if_pos (by unfold formB kidsN; simp [hk])])
    have HE := Lib.hid hE; have HK := Lib.hid hk
    clear hE hk
    go_wp2
    go_ret
    exact ⟨ret_intZ (by rw [HE.out]; rfl), HB0.out⟩
set_option maxRecDepth 100000 in
set_option maxHeartbeats 8000000 in
theorem own_7 (s : Sz) (k : Int) (hk0 : k = 7) (nm : List UInt8) (ns : List (List UInt8)) (ks : List Tz) (an ak : Option Addr) (cn ck : Nat) (c : C4) (a1 a2 : Option Addr) (us : List (List UInt8 × C4)) (gs : List (List UInt8 × G6)) (c1 c2 : Nat) (w : World) (hV : SzV w (Any w) s c a1 us a2 gs) (hN : RowV w (Any w) an 1 (ns.map fun n => [str n])) (_hl : s.types.length ≤ maxLen) (hf : fitZ (.mk k nm ns ks) = true) :
    Calls Try.prog 70 #[.agg #[.int .i64 c.k, .string c.n, .slice c.an c.ln c.cn, .slice c.ak c.lk c.ck, .slice a1 s.types.length c1, .slice a2 s.sigs.length c2], .agg #[.int .i64 k, .string ⟨nm.toArray⟩, .slice an ns.length cn, .slice ak ks.length ck]] w fun e w' => e = .returned (.int .i64 (ownE (hasZ s.types) k nm ns ks.length)) ∧ Below w.heap.size w w' := by
  subst hk0
  obtain ⟨f1, f2, f3, f4, _⟩ := fitZ_mk hf
  unfold maxLen at f2 f4
  obtain ⟨W0, hW0⟩ : ∃ W0, W0 = (w.alloc (.cells #[.int .i64 c.k, .string c.n, .slice c.an c.ln c.cn, .slice c.ak c.lk c.ck, .slice a1 s.types.length c1, .slice a2 s.sigs.length c2] 29)).alloc (.cells #[.int .i64 7, .string ⟨nm.toArray⟩, .slice an ns.length cn, .slice ak ks.length ck] 25) := ⟨_, rfl⟩
  have hb0 : Below w.heap.size w W0 := by rw [hW0]; exact ((Below.refl _ _).alloc (Nat.le_refl _) _).alloc (by simp) _
  have hz0 : W0.heap.size = w.heap.size + 2 := by rw [hW0]; simp
  have ht0 : W0.heap[w.heap.size + 1]? = some (.cells #[.int .i64 7, .string ⟨nm.toArray⟩, .slice an ns.length cn, .slice ak ks.length ck] 25 (0, 0)) := by rw [hW0, blk_if, if_pos (by simp)]
  obtain ⟨⟨p0, p1, p2, p3⟩, _⟩ := four_blk ht0
  have hs0 : W0.heap[w.heap.size]? = some (.cells #[.int .i64 c.k, .string c.n, .slice c.an c.ln c.cn, .slice c.ak c.lk c.ck, .slice a1 s.types.length c1, .slice a2 s.sigs.length c2] 29 (0, 0)) := by rw [hW0, blk_if, if_neg (by simp), blk_if, if_pos rfl]
  obtain ⟨⟨s0, s1, s2, s3, s4, s5⟩, _⟩ := six_blkF hs0
  have e0 := toList_mk' nm
  have HV := Lib.hid hV; have HN := Lib.hid hN; have HW0 := Lib.hid hW0; have HB0 := Lib.hid hb0; have HT0 := Lib.hid ht0
  have HFN : Hid (∀ i (h : i < ns.length), ns[i].length ≤ maxLen) := f3
  clear hV hN hW0 hb0 ht0 hf f3 hs0
  generalize hE0 : ownE (hasZ s.types) 7 nm ns ks.length = E0
  have HE0 := Lib.hid hE0
  clear hE0
  go_enter Try.func70, Try.ntmps70
  go_upto_region 1 with fail
  rw [← HW0.out]
  by_cases hk : ks.length = ns.length
  · have tk : ((ks.length : Int) == (ns.length : Int)) = true := by rw [beq_iff_eq]; omega
    have tk2 : ((ks.length : Int) != (ns.length : Int)) = false := by simp; omega
    by_cases hn : nm = []
    · subst hn
      have hf : formB 7 [] ns ks.length = true := by unfold formB kidsN; simp [hk]
      have hE : E0 = fieldE 7 ns := HE0.out.symm.trans (by unfold ownE; rw [if_neg (by omega), hf, if_neg (by simp), if_neg (by omega)])
      rw [fieldE] at hE
      by_cases h8 : 8 < ns.length
      · rw [if_pos h8] at hE
        have h8z : (8 : Int) < (ns.length : Int) := by omega
        have HK := Lib.hid hk; have HE := Lib.hid hE
        clear hk h8 hE hf
        go_wp2
        go_ret
        exact ⟨ret_intZ (by rw [HE.out]; rfl), HB0.out⟩
      · rw [if_neg h8] at hE
        have h8z : ¬ (8 : Int) < (ns.length : Int) := by omega
        have HK := Lib.hid hk
        clear hk
        obtain ⟨v, hv0⟩ : ∃ v, v = E0 := ⟨_, rfl⟩
        have hv : (if namesE (fun _ => false) [] ns ≠ 0 then namesE (fun _ => false) [] ns else if (7 : Int) = 8 ∧ ns.length = 0 then 12 else 0) = v := by rw [hv0, hE]
        have HV2 := Lib.hid hv; have HV0 := Lib.hid hv0
        clear hv h8 hE hf hv0
        go_wp2
        go_loopw [9] (fun kv wr => ∃ i : Nat, OwR w W0 ns kv wr i) (fun kv _ => ns.length - (intOf kv).toNat)
        case atStart => exact ⟨0, rfl, Nat.zero_le _, rfl, fun _ => rfl, HB0.out⟩
        case round =>
          obtain ⟨i, h⟩ := hrel
          obtain rfl := h.slot
          have hi := h.le
          obtain ⟨⟨p0, p1, p2, p3⟩, _⟩ := four_blk ((h.same _).trans HT0.out)
          have hd := Lib.hid h.names
          have H := Lib.hid h
          clear h
          by_cases hlt : i < ns.length
          · have hiz : (i : Int) < (ns.length : Int) := by omega
            have hi0 : (0 : Int) ≤ (i : Int) := by omega
            obtain ⟨g, o, rfl, hg, hc⟩ := name_kp HN.out i hlt
            have c0 := hc wr ((H.out.same g).trans (HB0.out.block g hg))
            have hgd : ns.getD i [] = ns[i] := by simp [List.getD, hlt]
            rw [hgd] at c0
            have CI := RIdent_any ⟨ns[i].toArray⟩ wr (HFN.out i hlt)
            rw [show (⟨ns[i].toArray⟩ : ByteArray).data.toList = ns[i] from rfl] at CI
            have hdr := namesE_drop (tk := fun _ => false) (a := prevN ns i) hlt
            have e1 := toList_mk' ns[i]
            have hpn : prevN ns (i + 1) = ns[i] := by unfold prevN; rw [if_neg (by omega), Nat.add_sub_cancel]; exact hgd
            cases hid : identB ns[i]
            · have hne : namesE (fun _ => false) [] ns = 15 := by rw [hd.out, hdr]; unfold nameE; simp [hid]
              have hv : v = 15 := by rw [← HV2.out, hne]; rfl
              rw [hid] at CI
              have HVV := Lib.hid hv; have HCI := Lib.hid CI
              clear hne hv CI hdr hpn hid hc hgd
              generalize ns[i] = a at *
              go_wp2_with (go_at_call 41; (with_reducible refine HCI.out.mono ?_); rintro e w2 ⟨rfl, rfl⟩)
              go_ret
              exact ⟨ret_intZ (by rw [← HV0.out, HVV.out]; rfl), by first | exact H.out.below | exact below_dNZ H.out.below _⟩
            · rw [hid] at CI
              have HCI := Lib.hid CI
              clear CI
              by_cases hi1 : i = 0
              · have hdd : decide ((0 : Int) < (i : Int)) = false := decide_eq_false (by omega)
                have hde : decide (0 < i) = false := decide_eq_false (by omega)
                have hl := leB_nil hid
                have hd' : namesE (fun _ => false) [] ns = namesE (fun _ => false) (prevN ns (i + 1)) (ns.drop (i + 1)) := by
                  rw [hd.out, hdr, hpn, if_pos (by unfold nameE leB prevN; rw [hid, if_neg (by simp), if_pos hi1, hl]; simp)]
                have HD := Lib.hid hd'
                clear hd' hdr hpn hid hl hc hgd hd hi1
                generalize ns[i] = a at *
                go_wp2_with (go_at_call 41; (with_reducible refine HCI.out.mono ?_); rintro e w2 ⟨rfl, rfl⟩)
                go_quiet (fail)
                go_wp2
                go_roundw
                case rel => exact ⟨i + 1, by go_num, by omega, HD.out, H.out.same, below_dNZ H.out.below _⟩
                case measure => simp [intOf]; omega
              · have hip : (0 : Int) < (i : Int) := by omega
                have hiq : 0 < i := by omega
                have him : (i : Int) - 1 = ((i - 1 : Nat) : Int) := by omega
                have him2 : IntKind.i64.wrap ((i : Int) - 1) = ((i - 1 : Nat) : Int) := by rw [IntKind.wrap_i64]; omega
                have hlt1 : i - 1 < ns.length := by omega
                obtain ⟨g2, o2, e2, hg2, hc2⟩ := name_kp HN.out (i - 1) hlt1
                obtain ⟨rfl, rfl⟩ : g = g2 ∧ o = o2 := by cases e2; exact ⟨rfl, rfl⟩
                have d0 := hc2 wr ((H.out.same g).trans (HB0.out.block g hg))
                have hgp : prevN ns i = ns.getD (i - 1) [] := by unfold prevN; rw [if_neg hi1]
                rw [hgp] at hdr
                have e3 := toList_mk' (ns.getD (i - 1) [])
                have hjz : ((i - 1 : Nat) : Int) < (ns.length : Int) := by omega
                have hj0 : (0 : Int) ≤ ((i - 1 : Nat) : Int) := by omega
                have HPI := Lib.hid hgp; have HID := Lib.hid hid; have HDR := Lib.hid hdr; have HPN := Lib.hid hpn
                clear hid hdr hpn hc hc2 hgd hgp e2
                generalize ns.getD (i - 1) [] = b at *
                cases hl : (Op.bytesLess ns[i] b || ns[i] == b)
                · have hd' : namesE (fun _ => false) [] ns = namesE (fun _ => false) (prevN ns (i + 1)) (ns.drop (i + 1)) := by
                    rw [hd.out, show prevN ns i = b from HPI.out, HDR.out, HPN.out, if_pos (by unfold nameE leB; simp [HID.out, hl])]
                  have HD := Lib.hid hd'
                  clear hd' hd
                  go_wp2_with (go_at_call 41; (with_reducible refine HCI.out.mono ?_); rintro e w2 ⟨rfl, rfl⟩)
                  go_quiet (fail)
                  go_wp2
                  go_roundw
                  case rel => exact ⟨i + 1, by go_num, by omega, HD.out, H.out.same, below_dNZ H.out.below _⟩
                  case measure => simp [intOf]; omega
                · have hne : namesE (fun _ => false) [] ns = 6 := by rw [hd.out, show prevN ns i = b from HPI.out, HDR.out]; unfold nameE leB; simp [HID.out, hl]
                  have hv : v = 6 := by rw [← HV2.out, hne]; rfl
                  have HVV := Lib.hid hv
                  clear hne hv hd
                  go_wp2_with (go_at_call 41; (with_reducible refine HCI.out.mono ?_); rintro e w2 ⟨rfl, rfl⟩)
                  go_quiet (fail)
                  go_wp2
                  go_ret
                  exact ⟨ret_intZ (by rw [← HV0.out, HVV.out]; rfl), by first | exact H.out.below | exact below_dNZ H.out.below _⟩
          · have hiz : ¬ (i : Int) < (ns.length : Int) := by omega
            obtain rfl : i = ns.length := by omega
            have hne : namesE (fun _ => false) [] ns = 0 := by rw [hd.out, List.drop_of_length_le (Nat.le_refl _)]; rfl
            have hv : v = 0 := by rw [← HV2.out, hne]; simp
            have HVV := Lib.hid hv
            clear hne hv hd
            go_wp2
            go_ret
            exact ⟨ret_intZ (by rw [← HV0.out, HVV.out]; rfl), H.out.below⟩
    · have tn : (nm == []) = false := by rw [beq_eq_false_iff_ne]; exact hn
      have hE : E0 = 12 := HE0.out.symm.trans (by unfold ownE; rw [if_neg (by omega), if_pos (by unfold formB; simp [hn])])
      have HE := Lib.hid hE; have HK := Lib.hid hk
      clear hE hk
      go_wp2
      go_ret
      exact ⟨ret_intZ (by rw [HE.out]; rfl), HB0.out⟩
  · have tk : ((ks.length : Int) == (ns.length : Int)) = false := by rw [beq_eq_false_iff_ne]; omega
    have tk2 : ((ks.length : Int) != (ns.length : Int)) = true := by rw [bne_iff_ne]; omega
    have hE : E0 = 12 := HE0.out.symm.trans (by unfold ownE; rw [if_neg (by omega), if_pos (by unfold formB kidsN; simp [hk])])
    have HE := Lib.hid hE; have HK := Lib.hid hk
    clear hE hk
    go_wp2
    go_ret
    exact ⟨ret_intZ (by rw [HE.out]; rfl), HB0.out⟩
set_option maxRecDepth 100000 in
set_option maxHeartbeats 8000000 in
theorem own_8 (s : Sz) (k : Int) (hk0 : k = 8) (nm : List UInt8) (ns : List (List UInt8)) (ks : List Tz) (an ak : Option Addr) (cn ck : Nat) (c : C4) (a1 a2 : Option Addr) (us : List (List UInt8 × C4)) (gs : List (List UInt8 × G6)) (c1 c2 : Nat) (w : World) (hV : SzV w (Any w) s c a1 us a2 gs) (hN : RowV w (Any w) an 1 (ns.map fun n => [str n])) (_hl : s.types.length ≤ maxLen) (hf : fitZ (.mk k nm ns ks) = true) :
    Calls Try.prog 70 #[.agg #[.int .i64 c.k, .string c.n, .slice c.an c.ln c.cn, .slice c.ak c.lk c.ck, .slice a1 s.types.length c1, .slice a2 s.sigs.length c2], .agg #[.int .i64 k, .string ⟨nm.toArray⟩, .slice an ns.length cn, .slice ak ks.length ck]] w fun e w' => e = .returned (.int .i64 (ownE (hasZ s.types) k nm ns ks.length)) ∧ Below w.heap.size w w' := by
  subst hk0
  obtain ⟨f1, f2, f3, f4, _⟩ := fitZ_mk hf
  unfold maxLen at f2 f4
  obtain ⟨W0, hW0⟩ : ∃ W0, W0 = (w.alloc (.cells #[.int .i64 c.k, .string c.n, .slice c.an c.ln c.cn, .slice c.ak c.lk c.ck, .slice a1 s.types.length c1, .slice a2 s.sigs.length c2] 29)).alloc (.cells #[.int .i64 8, .string ⟨nm.toArray⟩, .slice an ns.length cn, .slice ak ks.length ck] 25) := ⟨_, rfl⟩
  have hb0 : Below w.heap.size w W0 := by rw [hW0]; exact ((Below.refl _ _).alloc (Nat.le_refl _) _).alloc (by simp) _
  have hz0 : W0.heap.size = w.heap.size + 2 := by rw [hW0]; simp
  have ht0 : W0.heap[w.heap.size + 1]? = some (.cells #[.int .i64 8, .string ⟨nm.toArray⟩, .slice an ns.length cn, .slice ak ks.length ck] 25 (0, 0)) := by rw [hW0, blk_if, if_pos (by simp)]
  obtain ⟨⟨p0, p1, p2, p3⟩, _⟩ := four_blk ht0
  have hs0 : W0.heap[w.heap.size]? = some (.cells #[.int .i64 c.k, .string c.n, .slice c.an c.ln c.cn, .slice c.ak c.lk c.ck, .slice a1 s.types.length c1, .slice a2 s.sigs.length c2] 29 (0, 0)) := by rw [hW0, blk_if, if_neg (by simp), blk_if, if_pos rfl]
  obtain ⟨⟨s0, s1, s2, s3, s4, s5⟩, _⟩ := six_blkF hs0
  have e0 := toList_mk' nm
  have HV := Lib.hid hV; have HN := Lib.hid hN; have HW0 := Lib.hid hW0; have HB0 := Lib.hid hb0; have HT0 := Lib.hid ht0
  have HFN : Hid (∀ i (h : i < ns.length), ns[i].length ≤ maxLen) := f3
  clear hV hN hW0 hb0 ht0 hf f3 hs0
  generalize hE0 : ownE (hasZ s.types) 8 nm ns ks.length = E0
  have HE0 := Lib.hid hE0
  clear hE0
  go_enter Try.func70, Try.ntmps70
  go_upto_region 1 with fail
  rw [← HW0.out]
  by_cases hk : ks.length = ns.length
  · have tk : ((ks.length : Int) == (ns.length : Int)) = true := by rw [beq_iff_eq]; omega
    have tk2 : ((ks.length : Int) != (ns.length : Int)) = false := by simp; omega
    by_cases hn : nm = []
    · subst hn
      have hf : formB 8 [] ns ks.length = true := by unfold formB kidsN; simp [hk]
      have hE : E0 = fieldE 8 ns := HE0.out.symm.trans (by unfold ownE; rw [if_neg (by omega), hf, if_neg (by simp), if_neg (by omega)])
      rw [fieldE] at hE
      by_cases h8 : 8 < ns.length
      · rw [if_pos h8] at hE
        have h8z : (8 : Int) < (ns.length : Int) := by omega
        have HK := Lib.hid hk; have HE := Lib.hid hE
        clear hk h8 hE hf
        go_wp2
        go_ret
        exact ⟨ret_intZ (by rw [HE.out]; rfl), HB0.out⟩
      · rw [if_neg h8] at hE
        have h8z : ¬ (8 : Int) < (ns.length : Int) := by omega
        have HK := Lib.hid hk
        clear hk
        obtain ⟨v, hv0⟩ : ∃ v, v = E0 := ⟨_, rfl⟩
        have hv : (if namesE (fun _ => false) [] ns ≠ 0 then namesE (fun _ => false) [] ns else if (8 : Int) = 8 ∧ ns.length = 0 then 12 else 0) = v := by rw [hv0, hE]
        have HV2 := Lib.hid hv; have HV0 := Lib.hid hv0
        clear hv h8 hE hf hv0
        go_wp2
        go_loopw [9] (fun kv wr => ∃ i : Nat, OwR w W0 ns kv wr i) (fun kv _ => ns.length - (intOf kv).toNat)
        case atStart => exact ⟨0, rfl, Nat.zero_le _, rfl, fun _ => rfl, HB0.out⟩
        case round =>
          obtain ⟨i, h⟩ := hrel
          obtain rfl := h.slot
          have hi := h.le
          obtain ⟨⟨p0, p1, p2, p3⟩, _⟩ := four_blk ((h.same _).trans HT0.out)
          have hd := Lib.hid h.names
          have H := Lib.hid h
          clear h
          by_cases hlt : i < ns.length
          · have hiz : (i : Int) < (ns.length : Int) := by omega
            have hi0 : (0 : Int) ≤ (i : Int) := by omega
            obtain ⟨g, o, rfl, hg, hc⟩ := name_kp HN.out i hlt
            have c0 := hc wr ((H.out.same g).trans (HB0.out.block g hg))
            have hgd : ns.getD i [] = ns[i] := by simp [List.getD, hlt]
            rw [hgd] at c0
            have CI := RIdent_any ⟨ns[i].toArray⟩ wr (HFN.out i hlt)
            rw [show (⟨ns[i].toArray⟩ : ByteArray).data.toList = ns[i] from rfl] at CI
            have hdr := namesE_drop (tk := fun _ => false) (a := prevN ns i) hlt
            have e1 := toList_mk' ns[i]
            have hpn : prevN ns (i + 1) = ns[i] := by unfold prevN; rw [if_neg (by omega), Nat.add_sub_cancel]; exact hgd
            cases hid : identB ns[i]
            · have hne : namesE (fun _ => false) [] ns = 15 := by rw [hd.out, hdr]; unfold nameE; simp [hid]
              have hv : v = 15 := by rw [← HV2.out, hne]; rfl
              rw [hid] at CI
              have HVV := Lib.hid hv; have HCI := Lib.hid CI
              clear hne hv CI hdr hpn hid hc hgd
              generalize ns[i] = a at *
              go_wp2_with (go_at_call 41; (with_reducible refine HCI.out.mono ?_); rintro e w2 ⟨rfl, rfl⟩)
              go_ret
              exact ⟨ret_intZ (by rw [← HV0.out, HVV.out]; rfl), by first | exact H.out.below | exact below_dNZ H.out.below _⟩
            · rw [hid] at CI
              have HCI := Lib.hid CI
              clear CI
              by_cases hi1 : i = 0
              · have hdd : decide ((0 : Int) < (i : Int)) = false := decide_eq_false (by omega)
                have hde : decide (0 < i) = false := decide_eq_false (by omega)
                have hl := leB_nil hid
                have hd' : namesE (fun _ => false) [] ns = namesE (fun _ => false) (prevN ns (i + 1)) (ns.drop (i + 1)) := by
                  rw [hd.out, hdr, hpn, if_pos (by unfold nameE leB prevN; rw [hid, if_neg (by simp), if_pos hi1, hl]; simp)]
                have HD := Lib.hid hd'
                clear hd' hdr hpn hid hl hc hgd hd hi1
                generalize ns[i] = a at *
                go_wp2_with (go_at_call 41; (with_reducible refine HCI.out.mono ?_); rintro e w2 ⟨rfl, rfl⟩)
                go_quiet (fail)
                go_wp2
                go_roundw
                case rel => exact ⟨i + 1, by go_num, by omega, HD.out, H.out.same, below_dNZ H.out.below _⟩
                case measure => simp [intOf]; omega
              · have hip : (0 : Int) < (i : Int) := by omega
                have hiq : 0 < i := by omega
                have him : (i : Int) - 1 = ((i - 1 : Nat) : Int) := by omega
                have him2 : IntKind.i64.wrap ((i : Int) - 1) = ((i - 1 : Nat) : Int) := by rw [IntKind.wrap_i64]; omega
                have hlt1 : i - 1 < ns.length := by omega
                obtain ⟨g2, o2, e2, hg2, hc2⟩ := name_kp HN.out (i - 1) hlt1
                obtain ⟨rfl, rfl⟩ : g = g2 ∧ o = o2 := by cases e2; exact ⟨rfl, rfl⟩
                have d0 := hc2 wr ((H.out.same g).trans (HB0.out.block g hg))
                have hgp : prevN ns i = ns.getD (i - 1) [] := by unfold prevN; rw [if_neg hi1]
                rw [hgp] at hdr
                have e3 := toList_mk' (ns.getD (i - 1) [])
                have hjz : ((i - 1 : Nat) : Int) < (ns.length : Int) := by omega
                have hj0 : (0 : Int) ≤ ((i - 1 : Nat) : Int) := by omega
                have HPI := Lib.hid hgp; have HID := Lib.hid hid; have HDR := Lib.hid hdr; have HPN := Lib.hid hpn
                clear hid hdr hpn hc hc2 hgd hgp e2
                generalize ns.getD (i - 1) [] = b at *
                cases hl : (Op.bytesLess ns[i] b || ns[i] == b)
                · have hd' : namesE (fun _ => false) [] ns = namesE (fun _ => false) (prevN ns (i + 1)) (ns.drop (i + 1)) := by
                    rw [hd.out, show prevN ns i = b from HPI.out, HDR.out, HPN.out, if_pos (by unfold nameE leB; simp [HID.out, hl])]
                  have HD := Lib.hid hd'
                  clear hd' hd
                  go_wp2_with (go_at_call 41; (with_reducible refine HCI.out.mono ?_); rintro e w2 ⟨rfl, rfl⟩)
                  go_quiet (fail)
                  go_wp2
                  go_roundw
                  case rel => exact ⟨i + 1, by go_num, by omega, HD.out, H.out.same, below_dNZ H.out.below _⟩
                  case measure => simp [intOf]; omega
                · have hne : namesE (fun _ => false) [] ns = 6 := by rw [hd.out, show prevN ns i = b from HPI.out, HDR.out]; unfold nameE leB; simp [HID.out, hl]
                  have hv : v = 6 := by rw [← HV2.out, hne]; rfl
                  have HVV := Lib.hid hv
                  clear hne hv hd
                  go_wp2_with (go_at_call 41; (with_reducible refine HCI.out.mono ?_); rintro e w2 ⟨rfl, rfl⟩)
                  go_quiet (fail)
                  go_wp2
                  go_ret
                  exact ⟨ret_intZ (by rw [← HV0.out, HVV.out]; rfl), by first | exact H.out.below | exact below_dNZ H.out.below _⟩
          · have hiz : ¬ (i : Int) < (ns.length : Int) := by omega
            obtain rfl : i = ns.length := by omega
            have hne : namesE (fun _ => false) [] ns = 0 := by rw [hd.out, List.drop_of_length_le (Nat.le_refl _)]; rfl
            by_cases hn0 : ns.length = 0
            · have hv : v = 12 := by rw [← HV2.out, hne]; simp [hn0]
              have tz : ((ns.length : Int) == 0) = true := by rw [beq_iff_eq]; omega
              have HVV := Lib.hid hv
              clear hne hv hd hn0
              go_wp2
              go_ret
              exact ⟨ret_intZ (by rw [← HV0.out, HVV.out]; rfl), H.out.below⟩
            · have hv : v = 0 := by rw [← HV2.out, hne]; simp [hn0]
              have tz : ((ns.length : Int) == 0) = false := by rw [beq_eq_false_iff_ne]; omega
              have HVV := Lib.hid hv
              clear hne hv hd hn0
              go_wp2
              go_ret
              exact ⟨ret_intZ (by rw [← HV0.out, HVV.out]; rfl), H.out.below⟩
    · have tn : (nm == []) = false := by rw [beq_eq_false_iff_ne]; exact hn
      have hE : E0 = 12 := HE0.out.symm.trans (by unfold ownE; rw [if_neg (by omega), if_pos (by unfold formB; simp [hn])])
      have HE := Lib.hid hE; have HK := Lib.hid hk
      clear hE hk
      go_wp2
      go_ret
      exact ⟨ret_intZ (by rw [HE.out]; rfl), HB0.out⟩
  · have tk : ((ks.length : Int) == (ns.length : Int)) = false := by rw [beq_eq_false_iff_ne]; omega
    have tk2 : ((ks.length : Int) != (ns.length : Int)) = true := by rw [bne_iff_ne]; omega
    have hE : E0 = 12 := HE0.out.symm.trans (by unfold ownE; rw [if_neg (by omega), if_pos (by unfold formB kidsN; simp [hk])])
    have HE := Lib.hid hE; have HK := Lib.hid hk
    clear hE hk
    go_wp2
    go_ret
    exact ⟨ret_intZ (by rw [HE.out]; rfl), HB0.out⟩
set_option maxRecDepth 100000 in
set_option maxHeartbeats 8000000 in
theorem own_9 (s : Sz) (k : Int) (hk0 : k = 9) (nm : List UInt8) (ns : List (List UInt8)) (ks : List Tz) (an ak : Option Addr) (cn ck : Nat) (c : C4) (a1 a2 : Option Addr) (us : List (List UInt8 × C4)) (gs : List (List UInt8 × G6)) (c1 c2 : Nat) (w : World) (hV : SzV w (Any w) s c a1 us a2 gs) (hN : RowV w (Any w) an 1 (ns.map fun n => [str n])) (hl : s.types.length ≤ maxLen) (hf : fitZ (.mk k nm ns ks) = true) :
    Calls Try.prog 70 #[.agg #[.int .i64 c.k, .string c.n, .slice c.an c.ln c.cn, .slice c.ak c.lk c.ck, .slice a1 s.types.length c1, .slice a2 s.sigs.length c2], .agg #[.int .i64 k, .string ⟨nm.toArray⟩, .slice an ns.length cn, .slice ak ks.length ck]] w fun e w' => e = .returned (.int .i64 (ownE (hasZ s.types) k nm ns ks.length)) ∧ Below w.heap.size w w' := by
  subst hk0
  obtain ⟨f1, f2, f3, f4, _⟩ := fitZ_mk hf
  unfold maxLen at f2 f4
  obtain ⟨W0, hW0⟩ : ∃ W0, W0 = (w.alloc (.cells #[.int .i64 c.k, .string c.n, .slice c.an c.ln c.cn, .slice c.ak c.lk c.ck, .slice a1 s.types.length c1, .slice a2 s.sigs.length c2] 29)).alloc (.cells #[.int .i64 9, .string ⟨nm.toArray⟩, .slice an ns.length cn, .slice ak ks.length ck] 25) := ⟨_, rfl⟩
  have hb0 : Below w.heap.size w W0 := by rw [hW0]; exact ((Below.refl _ _).alloc (Nat.le_refl _) _).alloc (by simp) _
  have hz0 : W0.heap.size = w.heap.size + 2 := by rw [hW0]; simp
  have ht0 : W0.heap[w.heap.size + 1]? = some (.cells #[.int .i64 9, .string ⟨nm.toArray⟩, .slice an ns.length cn, .slice ak ks.length ck] 25 (0, 0)) := by rw [hW0, blk_if, if_pos (by simp)]
  obtain ⟨⟨p0, p1, p2, p3⟩, _⟩ := four_blk ht0
  have hs0 : W0.heap[w.heap.size]? = some (.cells #[.int .i64 c.k, .string c.n, .slice c.an c.ln c.cn, .slice c.ak c.lk c.ck, .slice a1 s.types.length c1, .slice a2 s.sigs.length c2] 29 (0, 0)) := by rw [hW0, blk_if, if_neg (by simp), blk_if, if_pos rfl]
  obtain ⟨⟨s0, s1, s2, s3, s4, s5⟩, _⟩ := six_blkF hs0
  have e0 := toList_mk' nm
  have HV := Lib.hid hV; have HN := Lib.hid hN; have HW0 := Lib.hid hW0; have HB0 := Lib.hid hb0; have HT0 := Lib.hid ht0
  have HFN : Hid (∀ i (h : i < ns.length), ns[i].length ≤ maxLen) := f3
  clear hV hN hW0 hb0 ht0 hf f3 hs0
  generalize hE0 : ownE (hasZ s.types) 9 nm ns ks.length = E0
  have HE0 := Lib.hid hE0
  clear hE0
  go_enter Try.func70, Try.ntmps70
  go_upto_region 1 with fail
  rw [← HW0.out]
  by_cases hk : ks.length = 0
  · obtain rfl : ks = [] := List.eq_nil_of_length_eq_zero hk
    by_cases hs : ns.length = 0
    · obtain rfl : ns = [] := List.eq_nil_of_length_eq_zero hs
      have hf : formB 9 nm [] ([] : List Tz).length = true := by unfold formB kidsN; simp
      obtain ⟨hh, hhe⟩ : ∃ hh, hh = hasZ s.types nm := ⟨_, rfl⟩
      have CD := Def_ref (Any w) s nm c a1 a2 us gs c1 c2 W0 (fun g hg => Nat.lt_of_lt_of_le hg HB0.out.size) (HV.out.keep (fun g hg => HB0.out.block g hg)) hl
      rw [← hhe] at CD
      have hE : E0 = if hh = true then 0 else 15 := HE0.out.symm.trans (by
        unfold ownE
        rw [if_neg (by omega), hf, if_neg (by simp), ← hhe]
        cases hh <;> simp [fieldE, namesE])
      have HE := Lib.hid hE; have HCD := Lib.hid CD; have HF := Lib.hid hf; have HK := Lib.hid hk
      clear hE CD hf hk hhe
      cases hh
      · go_wp2_with (go_at_call 88; (with_reducible refine HCD.out.mono ?_); rintro e w2 ⟨ct, rfl, hv2, x2⟩; have HX2 := Lib.hid x2; clear x2 hv2)
        go_ret
        exact ⟨ret_intZ (by rw [HE.out]; rfl), (HB0.out.trans (HX2.out.mono HB0.out.size)).alloc (Nat.le_trans HB0.out.size HX2.out.size) _⟩
      · go_wp2_with (go_at_call 88; (with_reducible refine HCD.out.mono ?_); rintro e w2 ⟨ct, rfl, hv2, x2⟩; have hz2 := x2.size; have hzv : w.heap.size + 1 < w2.heap.size := (by omega); obtain ⟨⟨m0, m1, m2, m3⟩, _⟩ := four_blk ((x2.block (w.heap.size + 1) (by omega)).trans HT0.out); have HX2 := Lib.hid x2; clear x2 hv2)
        go_loop [9] (fun kv => kv = .int .i64 0) (fun _ => 0)
        case atStart => rfl
        case round =>
          obtain rfl := hrel
          go_wp2
          go_ret
          exact ⟨ret_intZ (by rw [HE.out]; rfl), (HB0.out.trans (HX2.out.mono HB0.out.size)).alloc (Nat.le_trans HB0.out.size HX2.out.size) _⟩
    · have ts : ¬ ns = [] := fun e => hs (by rw [e]; rfl)
      have hE : E0 = 12 := HE0.out.symm.trans (by unfold ownE; rw [if_neg (by omega), if_pos (by unfold formB; simp; intros; assumption)])
      have HE := Lib.hid hE; have HK := Lib.hid hk
      clear hE hk
      go_wp2
      go_ret
      exact ⟨ret_intZ (by rw [HE.out]; rfl), HB0.out⟩
  · have tk : ¬ ks = [] := fun e => hk (by rw [e]; rfl)
    have hE : E0 = 12 := HE0.out.symm.trans (by unfold ownE; rw [if_neg (by omega), if_pos (by unfold formB kidsN; simp [hk])])
    have HE := Lib.hid hE; have HK := Lib.hid hk
    clear hE hk
    go_wp2
    go_ret
    exact ⟨ret_intZ (by rw [HE.out]; rfl), HB0.out⟩
end Sp
end Go.Proofs.Ytjjpjkkaogfoaaa

namespace Go.Proofs.Ytjjpjkkaogfoaaa
namespace Sp
variable {P : Program} {ops : Array Oper} {Q : Exit → Act → World → Prop}

theorem wanted_none {o : Oper} {y : Nat → Option Bool} (hg : o.guard = none) : Region.wanted o y = true := by unfold Region.wanted; rw [hg]
theorem wanted_of {o : Oper} {a : Act} {j d : Nat} {want b : Bool} (hg : o.guard = some (j, want)) (hd : dstOf ops j = some d) (ht : a.tmps[d]? = some (.bool b)) : Region.wanted o (yielded ops a.tmps) = (b == want) := by
  unfold Region.wanted yielded
  unfold dstOf at hd
  rw [hg]
  simp only [hd, Option.bind_some, ht]
  rfl
theorem wpOp_wpG {i : Nat} {o : Oper} {a : Act} {w : World} {K : Act → World → Prop} (hi : ops[i]? = some o) (hg : Region.wanted o (yielded ops a.tmps) = true) (h : o.wp P a w K Q) : wpOp P ops Q i K a w := by
  unfold wpOp
  rw [hi]
  simp only [hg, if_true]
  exact .inl h
theorem wpOp_skipG {i : Nat} {o : Oper} {a : Act} {w : World} {K : Act → World → Prop} (hi : ops[i]? = some o) (hg : Region.wanted o (yielded ops a.tmps) = false) (h : K (a.put o.dst undef) w) : wpOp P ops Q i K a w := by
  unfold wpOp
  rw [hi]
  simp only [hg, Bool.false_eq_true, if_false]
  exact h
structure QJ {α : Type} (vals : α → Nat → Value) (M : α → Array Bool → World → Prop) (ops : Array Oper) (a0 : Act) (listed : Array Bool) (b : Act) (v : World) : Prop where
  size : listed.size = ops.size
  closed : Closed ops listed
  rest : ∃ x, Fr ops a0 (vals x) listed b ∧ M x listed v
section
variable {α : Type} {vals : α → Nat → Value} {M : α → Array Bool → World → Prop} {a0 b : Act} {listed : Array Bool} {v : World} {i : Nat} {o : Oper} {x : α}
/-- An operation that only reads. -/
theorem QJ.quiet (hz : listed.size = ops.size) (hC : Closed ops listed) (hi : i ∈ Region.ready .any ops listed) (hF : Fr ops a0 (vals x) listed b) (hs : Slots ops a0.tmps.size) (ho : ops[i]? = some o) (hg : Region.wanted o (yielded ops b.tmps) = true) (hM : M x (listed.setIfInBounds i true) v)
    (hr : (execOp b.eval o).run P v = .ok (.value (vals x i)) v) : wpOp P ops Q i (fun b' v' => QJ vals M ops a0 (listed.setIfInBounds i true) b' v') b v := by
  refine wpOp_wpG ho hg ?_
  unfold Oper.wp
  rw [hr]
  exact ⟨by simp [hz], hC.put hi, x, hF.put hs hz ho, hM⟩
/-- One that is left out. -/
theorem QJ.skip (hz : listed.size = ops.size) (hC : Closed ops listed) (hi : i ∈ Region.ready .any ops listed) (hF : Fr ops a0 (vals x) listed b) (hs : Slots ops a0.tmps.size) (ho : ops[i]? = some o) (hg : Region.wanted o (yielded ops b.tmps) = false) (hM : M x (listed.setIfInBounds i true) v) (hu : vals x i = undef) :
    wpOp P ops Q i (fun b' v' => QJ vals M ops a0 (listed.setIfInBounds i true) b' v') b v :=
  wpOp_skipG ho hg ⟨by simp [hz], hC.put hi, x, hu ▸ hF.put hs hz ho, hM⟩
/-- One that makes memory. -/
theorem QJ.make {v' : World} {x' : α} (hz : listed.size = ops.size) (hC : Closed ops listed) (hi : i ∈ Region.ready .any ops listed) (hF : Fr ops a0 (vals x) listed b) (hs : Slots ops a0.tmps.size) (ho : ops[i]? = some o) (hg : Region.wanted o (yielded ops b.tmps) = true) (hx : ∀ j, listed.getD j false = true → vals x' j = vals x j) (hM : M x' (listed.setIfInBounds i true) v')
    (hr : (execOp b.eval o).run P v = .ok (.value (vals x' i)) v') : wpOp P ops Q i (fun b' v' => QJ vals M ops a0 (listed.setIfInBounds i true) b' v') b v := by
  refine wpOp_wpG ho hg ?_
  unfold Oper.wp
  rw [hr]
  exact ⟨by simp [hz], hC.put hi, x', (hF.congr hx).put hs hz ho, hM⟩
/-- A call. -/
theorem QJ.call {f : FuncId} {args : Array Value} {R : Ending → World → Prop} (hz : listed.size = ops.size) (hC : Closed ops listed) (hi : i ∈ Region.ready .any ops listed) (hF : Fr ops a0 (vals x) listed b) (hs : Slots ops a0.tmps.size) (ho : ops[i]? = some o) (hg : Region.wanted o (yielded ops b.tmps) = true)
    (hr : (execOp b.eval o).run P v = .ok (.enter f args) v) (hR : Calls P f args v R) (hK : ∀ e w', R e w' → ∃ x', e = .returned (vals x' i) ∧ (∀ j, listed.getD j false = true → vals x' j = vals x j) ∧ M x' (listed.setIfInBounds i true) w') : wpOp P ops Q i (fun b' v' => QJ vals M ops a0 (listed.setIfInBounds i true) b' v') b v := by
  refine wpOp_wpG ho hg ?_
  unfold Oper.wp
  rw [hr, Oper.upon_enter]
  refine hR.mono fun e w' h => ?_
  obtain ⟨x', rfl, hx, hM⟩ := hK e w' h
  exact ⟨by simp [hz], hC.put hi, x', (hF.congr hx).put hs hz ho, hM⟩
end
end Sp
end Go.Proofs.Ytjjpjkkaogfoaaa

namespace Go.Proofs.Ytjjpjkkaogfoaaa
open Go.RowKit
namespace Sp
open Sc

set_option maxRecDepth 100000 in
set_option maxHeartbeats 8000000 in
theorem own_lo (s : Sz) (k : Int) (hk0 : k < 1) (nm : List UInt8) (ns : List (List UInt8)) (ks : List Tz) (an ak : Option Addr) (cn ck : Nat) (c : C4) (a1 a2 : Option Addr) (c1 c2 : Nat) (w : World) :
    Calls Try.prog 70 #[.agg #[.int .i64 c.k, .string c.n, .slice c.an c.ln c.cn, .slice c.ak c.lk c.ck, .slice a1 s.types.length c1, .slice a2 s.sigs.length c2], .agg #[.int .i64 k, .string ⟨nm.toArray⟩, .slice an ns.length cn, .slice ak ks.length ck]] w fun e w' => e = .returned (.int .i64 (ownE (hasZ s.types) k nm ns ks.length)) ∧ Below w.heap.size w w' := by
  obtain ⟨W0, hW0⟩ : ∃ W0, W0 = (w.alloc (.cells #[.int .i64 c.k, .string c.n, .slice c.an c.ln c.cn, .slice c.ak c.lk c.ck, .slice a1 s.types.length c1, .slice a2 s.sigs.length c2] 29)).alloc (.cells #[.int .i64 k, .string ⟨nm.toArray⟩, .slice an ns.length cn, .slice ak ks.length ck] 25) := ⟨_, rfl⟩
  have hb0 : Below w.heap.size w W0 := by rw [hW0]; exact ((Below.refl _ _).alloc (Nat.le_refl _) _).alloc (by simp) _
  have ht0 : W0.heap[w.heap.size + 1]? = some (.cells #[.int .i64 k, .string ⟨nm.toArray⟩, .slice an ns.length cn, .slice ak ks.length ck] 25 (0, 0)) := by rw [hW0, blk_if, if_pos (by simp)]
  obtain ⟨⟨p0, p1, p2, p3⟩, _⟩ := four_blk ht0
  have hE : ownE (hasZ s.types) k nm ns ks.length = 1 := by unfold ownE; exact if_pos (Or.inl hk0)
  rw [hE]
  have HW0 := Lib.hid hW0; have HB0 := Lib.hid hb0
  skip
  clear hW0 hb0 ht0 hE
  go_enter Try.func70, Try.ntmps70
  go_upto_region 1 with fail
  rw [← HW0.out]
  go_wp2
  go_ret
  exact ⟨rfl, HB0.out⟩
set_option maxRecDepth 100000 in
set_option maxHeartbeats 8000000 in
theorem own_hi (s : Sz) (k : Int) (hk0 : 9 < k) (nm : List UInt8) (ns : List (List UInt8)) (ks : List Tz) (an ak : Option Addr) (cn ck : Nat) (c : C4) (a1 a2 : Option Addr) (c1 c2 : Nat) (w : World) :
    Calls Try.prog 70 #[.agg #[.int .i64 c.k, .string c.n, .slice c.an c.ln c.cn, .slice c.ak c.lk c.ck, .slice a1 s.types.length c1, .slice a2 s.sigs.length c2], .agg #[.int .i64 k, .string ⟨nm.toArray⟩, .slice an ns.length cn, .slice ak ks.length ck]] w fun e w' => e = .returned (.int .i64 (ownE (hasZ s.types) k nm ns ks.length)) ∧ Below w.heap.size w w' := by
  obtain ⟨W0, hW0⟩ : ∃ W0, W0 = (w.alloc (.cells #[.int .i64 c.k, .string c.n, .slice c.an c.ln c.cn, .slice c.ak c.lk c.ck, .slice a1 s.types.length c1, .slice a2 s.sigs.length c2] 29)).alloc (.cells #[.int .i64 k, .string ⟨nm.toArray⟩, .slice an ns.length cn, .slice ak ks.length ck] 25) := ⟨_, rfl⟩
  have hb0 : Below w.heap.size w W0 := by rw [hW0]; exact ((Below.refl _ _).alloc (Nat.le_refl _) _).alloc (by simp) _
  have ht0 : W0.heap[w.heap.size + 1]? = some (.cells #[.int .i64 k, .string ⟨nm.toArray⟩, .slice an ns.length cn, .slice ak ks.length ck] 25 (0, 0)) := by rw [hW0, blk_if, if_pos (by simp)]
  obtain ⟨⟨p0, p1, p2, p3⟩, _⟩ := four_blk ht0
  have hE : ownE (hasZ s.types) k nm ns ks.length = 1 := by unfold ownE; exact if_pos (Or.inr hk0)
  rw [hE]
  have HW0 := Lib.hid hW0; have HB0 := Lib.hid hb0
  have hkz : ¬ k < 1 := by omega
  clear hW0 hb0 ht0 hE
  go_enter Try.func70, Try.ntmps70
  go_upto_region 1 with fail
  rw [← HW0.out]
  go_wp2
  go_ret
  exact ⟨rfl, HB0.out⟩
theorem own_ref (s : Sz) (c : C4) (a1 a2 : Option Addr) (us : List (List UInt8 × C4)) (gs : List (List UInt8 × G6)) (c1 c2 : Nat) (k : Int) (nm : List UInt8) (ns : List (List UInt8)) (ks : List Tz) (an ak : Option Addr) (cn ck : Nat) (w : World) (hV : SzV w (Any w) s c a1 us a2 gs) (hN : RowV w (Any w) an 1 (ns.map fun n => [str n])) (hl : s.types.length ≤ maxLen) (hf : fitZ (.mk k nm ns ks) = true) :
    Calls Try.prog 70 #[.agg #[.int .i64 c.k, .string c.n, .slice c.an c.ln c.cn, .slice c.ak c.lk c.ck, .slice a1 s.types.length c1, .slice a2 s.sigs.length c2], .agg #[.int .i64 k, .string ⟨nm.toArray⟩, .slice an ns.length cn, .slice ak ks.length ck]] w fun e w' => e = .returned (.int .i64 (ownE (hasZ s.types) k nm ns ks.length)) ∧ Below w.heap.size w w' := by
  by_cases h1 : k < 1
  · exact own_lo s k h1 nm ns ks an ak cn ck c a1 a2 c1 c2 w
  · by_cases h2 : 9 < k
    · exact own_hi s k h2 nm ns ks an ak cn ck c a1 a2 c1 c2 w
    · obtain h | h | h | h | h | h | h | h | h : k = 1 ∨ k = 2 ∨ k = 3 ∨ k = 4 ∨ k = 5 ∨ k = 6 ∨ k = 7 ∨ k = 8 ∨ k = 9 := by omega
      · exact own_1 s k h nm ns ks an ak cn ck c a1 a2 us gs c1 c2 w hV hN hl hf
      · exact own_2 s k h nm ns ks an ak cn ck c a1 a2 us gs c1 c2 w hV hN hl hf
      · exact own_3 s k h nm ns ks an ak cn ck c a1 a2 us gs c1 c2 w hV hN hl hf
      · exact own_4 s k h nm ns ks an ak cn ck c a1 a2 us gs c1 c2 w hV hN hl hf
      · exact own_5 s k h nm ns ks an ak cn ck c a1 a2 us gs c1 c2 w hV hN hl hf
      · exact own_6 s k h nm ns ks an ak cn ck c a1 a2 us gs c1 c2 w hV hN hl hf
      · exact own_7 s k h nm ns ks an ak cn ck c a1 a2 us gs c1 c2 w hV hN hl hf
      · exact own_8 s k h nm ns ks an ak cn ck c a1 a2 us gs c1 c2 w hV hN hl hf
      · exact own_9 s k h nm ns ks an ak cn ck c a1 a2 us gs c1 c2 w hV hN hl hf

/-! ### may -/
theorem seven_blk {w : World} {b : Nat} {t : TypeId} {v0 v1 v2 v3 v4 v5 v6 : Value} (h : w.heap[b]? = some (.cells #[v0, v1, v2, v3, v4, v5, v6] t (0, 0))) :
    w.cell? ⟨b, 0, none⟩ = some v0 ∧ w.cell? ⟨b, 1, none⟩ = some v1 ∧ w.cell? ⟨b, 2, none⟩ = some v2 ∧ w.cell? ⟨b, 3, none⟩ = some v3 ∧ w.cell? ⟨b, 4, none⟩ = some v4 ∧ w.cell? ⟨b, 5, none⟩ = some v5 ∧ w.cell? ⟨b, 6, none⟩ = some v6 := by
  refine ⟨?_, ?_, ?_, ?_, ?_, ?_, ?_⟩ <;> simp [World.cell?, h]
theorem seven_frz {w : World} {b : Nat} {t : TypeId} {v0 v1 v2 v3 v4 v5 v6 : Value} (h : w.heap[b]? = some (.cells #[v0, v1, v2, v3, v4, v5, v6] t (0, 0))) : w.frozen? ⟨b, 6, none⟩ = false := by simp [World.frozen?, h]
theorem set_seven {w : World} {b : Nat} {t : TypeId} {v0 v1 v2 v3 v4 v5 v6 : Value} (h : w.heap[b]? = some (.cells #[v0, v1, v2, v3, v4, v5, v6] t (0, 0))) (v : Value) : (w.setCell ⟨b, 6, none⟩ v).heap[b]? = some (.cells #[v0, v1, v2, v3, v4, v5, v] t (0, 0)) := by
  unfold World.setCell; simp [Array.getElem?_modify, h]
/-- A schema whose memory stays. -/
structure SzS (S : Nat → Prop) (w : World) (s : Sz) (c : C4) (a1 a2 : Option Addr) (us : List (List UInt8 × C4)) (gs : List (List UInt8 × G6))  : Prop where
  lt : ∀ g, S g → g < w.heap.size
  val : SzV w S s c a1 us a2 gs
theorem SzS.anyB {S : Nat → Prop} {w W : World} {s : Sz} {c : C4} {a1 a2 : Option Addr} {us : List (List UInt8 × C4)} {gs : List (List UInt8 × G6)}  (h : SzS S w s c a1 a2 us gs) (hb : Below w.heap.size w W) : SzV W (Any W) s c a1 us a2 gs :=
  ⟨h.val.main.keep (fun g hg => Nat.lt_of_lt_of_le (h.lt g hg) hb.size) (fun g hg => hb.block g (h.lt g hg)), h.val.nt, h.val.rt.keep (fun g hg => Nat.lt_of_lt_of_le (h.lt g hg) hb.size) (fun g hg => hb.block g (h.lt g hg)), fun i h1 h2 => ⟨(h.val.vt i h1 h2).1, (h.val.vt i h1 h2).2.keep (fun g hg => Nat.lt_of_lt_of_le (h.lt g hg) hb.size) (fun g hg => hb.block g (h.lt g hg))⟩, h.val.ng, h.val.rg.keep (fun g hg => Nat.lt_of_lt_of_le (h.lt g hg) hb.size) (fun g hg => hb.block g (h.lt g hg)), fun i h1 h2 => (h.val.vg i h1 h2).step (fun g hg => ⟨Nat.lt_of_lt_of_le (h.lt g hg) hb.size, hb.block g (h.lt g hg)⟩)⟩
/-- What a call of may leaves. -/
def MayP (S : Nat → Prop) (wb : Nat) (s : Sz) (c : C4) (a1 a2 : Option Addr) (us : List (List UInt8 × C4)) (gs : List (List UInt8 × G6)) (c1 c2 : Nat) (t : Tz) : Prop := ∀ (ct : C4) (d n : Nat) (w : World), (∀ g, S g → g < wb) → wb < w.heap.size → n ≤ 400 → d ≤ 1000000 → SzV w S s c a1 us a2 gs → TzV w S t ct → w.heap[wb]? = some (.cells #[.int .i64 c.k, .string c.n, .slice c.an c.ln c.cn, .slice c.ak c.lk c.ck, .slice a1 s.types.length c1, .slice a2 s.sigs.length c2, .int .i64 n] 90 (0, 0)) →
  Calls Try.prog 43 #[.pointer (some ⟨wb, 0, none⟩), .agg #[.int .i64 ct.k, .string ct.n, .slice ct.an ct.ln ct.cn, .slice ct.ak ct.lk ct.ck], .int .i64 d] w fun e w' => e = .returned (.int .i64 (oneZ (hasZ s.types) d n t).1) ∧ w'.heap[wb]? = some (.cells #[.int .i64 c.k, .string c.n, .slice c.an c.ln c.cn, .slice c.ak c.lk c.ck, .slice a1 s.types.length c1, .slice a2 s.sigs.length c2, .int .i64 (oneZ (hasZ s.types) d n t).2] 90 (0, 0)) ∧ Below wb w w' ∧ Kp wb w w'
structure MayR (S : Nat → Prop) (w0 : World) (wb : Nat) (bc : Array Value) (s : Sz) (c : C4) (a1 a2 : Option Addr) (us : List (List UInt8 × C4)) (gs : List (List UInt8 × G6)) (c1 c2 : Nat) (d : Nat) (ks : List Tz) (full : Nat × Nat) (ev iv : Value) (wr : World) (j e n : Nat) : Prop where
  slot : iv = .int .i64 j
  err : ev = .int .i64 e
  le : j ≤ ks.length
  rest : e = 0 → allZ (hasZ s.types) d n (ks.drop j) = full ∧ n ≤ 400
  bad : e ≠ 0 → full = (e, n)
  box : wr.heap[w0.heap.size]? = some (.cells bc 25 (0, 0))
  walk : wr.heap[wb]? = some (.cells #[.int .i64 c.k, .string c.n, .slice c.an c.ln c.cn, .slice c.ak c.lk c.ck, .slice a1 s.types.length c1, .slice a2 s.sigs.length c2, .int .i64 n] 90 (0, 0))
  below : Below wb w0 wr
  kp : Kp wb w0 wr
theorem allZ_drop {has : List UInt8 → Bool} {d n : Nat} {ks : List Tz} {i : Nat} (h : i < ks.length) : allZ has d n (ks.drop i) = if (oneZ has d n ks[i]).1 = 0 then allZ has d (oneZ has d n ks[i]).2 (ks.drop (i + 1)) else oneZ has d n ks[i] := by rw [List.drop_eq_getElem_cons h, allZ]
set_option maxRecDepth 100000 in
set_option maxHeartbeats 16000000 in
theorem may_step (S : Nat → Prop) (wb : Nat) (s : Sz) (c : C4) (a1 a2 : Option Addr) (us : List (List UInt8 × C4)) (gs : List (List UInt8 × G6)) (c1 c2 : Nat) (hl : s.types.length ≤ maxLen) (k : Int) (nm : List UInt8) (ns : List (List UInt8)) (ks : List Tz) (hf : fitZ (.mk k nm ns ks) = true) (ih : ∀ i (h : i < ks.length), MayP S wb s c a1 a2 us gs c1 c2 ks[i]) : MayP S wb s c a1 a2 us gs c1 c2 (.mk k nm ns ks) := by
  intro ct d n w hS hwb hn hd hV hT hW
  obtain ⟨f1, f2, f3, f4, f5⟩ := fitZ_mk hf
  unfold maxLen at f4
  cases hT with
  | mk _ _ _ _ an cn ak ck vs hkl hnr hkr hu =>
    obtain ⟨m0, m1, m2, m3, m4, m5, m6⟩ := seven_blk hW
    have mf := seven_frz hW
    generalize hfull : oneZ (hasZ s.types) d n (.mk k nm ns ks) = full
    rw [oneZ] at hfull
    obtain ⟨B, hB⟩ : ∃ B, B = w.heap.size := ⟨_, rfl⟩
    obtain ⟨W1, hW1⟩ : ∃ W1, W1 = (w.setCell ⟨wb, 6, none⟩ (.int .i64 ((n : Int) + 1))).alloc (.cells #[.int .i64 k, .string ⟨nm.toArray⟩, .slice an ns.length cn, .slice ak ks.length ck] 25) := ⟨_, rfl⟩
    have ho1 : Only wb w (w.setCell ⟨wb, 6, none⟩ (.int .i64 ((n : Int) + 1))) := (Only.refl _ _).setCell _ _
    have hz1 : W1.heap.size = w.heap.size + 1 := by rw [hW1]; simp
    have hb1 : Below wb w W1 := by rw [hW1]; exact (ho1.below (Nat.le_refl _) (by omega)).alloc (by simp; omega) _
    have hk1 : Kp wb w W1 := by rw [hW1]; exact ((Kp.refl wb w).only ho1).below ((Below.refl _ _).alloc (Nat.le_refl _) _)
    have hw1 : W1.heap[wb]? = some (.cells #[.int .i64 c.k, .string c.n, .slice c.an c.ln c.cn, .slice c.ak c.lk c.ck, .slice a1 s.types.length c1, .slice a2 s.sigs.length c2, .int .i64 ((n : Int) + 1)] 90 (0, 0)) := by rw [hW1]; exact blk_allocZ (set_seven hW _) _
    have hx1 : W1.heap[w.heap.size]? = some (.cells #[.int .i64 k, .string ⟨nm.toArray⟩, .slice an ns.length cn, .slice ak ks.length ck] 25 (0, 0)) := by rw [hW1, blk_if, if_pos (by simp)]
    have hwbz : (wb : Nat) < w.heap.size := hwb
    have HSS := Lib.hid hS; have HV := Lib.hid hV; have HW := Lib.hid hW; have HFU := Lib.hid hfull; have HNR := Lib.hid hnr; have HKR := Lib.hid hkr; have HU := Lib.hid hu; have HIH := Lib.hid ih; have HW1 := Lib.hid hW1; have HB1 := Lib.hid hb1; have HK1 := Lib.hid hk1; have HWK1 := Lib.hid hw1; have HX1 := Lib.hid hx1; have HFT := Lib.hid hf; have HKL := Lib.hid hkl
    clear hS hV hW hfull hnr hkr hu ih hW1 hb1 hk1 hw1 hx1 hf hkl ho1
    go_enter Try.func43, Try.ntmps43
    go_upto_region 2 with fail
    rw [← HW1.out]
    obtain ⟨y0, y1, y2, y3, y4, y5, y6⟩ := seven_blk HWK1.out
    have HWKN : Hid (W1.heap[wb]? = some (.cells #[.int .i64 c.k, .string c.n, .slice c.an c.ln c.cn, .slice c.ak c.lk c.ck, .slice a1 s.types.length c1, .slice a2 s.sigs.length c2, .int .i64 ((n + 1 : Nat) : Int)] 90 (0, 0))) := HWK1.out
    by_cases h400 : 400 < n + 1
    · have hz : (400 : Int) < (n : Int) + 1 := by omega
      have he : full = (3, n + 1) := by rw [← HFU.out, if_pos h400]
      have HE := Lib.hid he
      clear he h400
      go_wp2
      go_ret
      exact ⟨ret_intZ (by rw [HE.out]; rfl), by rw [HE.out]; exact HWKN.out, HB1.out, HK1.out⟩
    · have hz : ¬ (400 : Int) < (n : Int) + 1 := by omega
      by_cases h12 : 12 < d
      · have hdz : (12 : Int) < (d : Int) := by omega
        have he : full = (13, n + 1) := by rw [← HFU.out, if_neg h400, if_pos h12]
        have HE := Lib.hid he
        clear he h400
        go_wp2
        go_ret
        exact ⟨ret_intZ (by rw [HE.out]; rfl), by rw [HE.out]; exact HWKN.out, HB1.out, HK1.out⟩
      · have hdz : ¬ (12 : Int) < (d : Int) := by omega
        have hsb : ∀ g, S g → g < W1.heap.size := fun g hg => by have := HSS.out g hg; omega
        have hkeep : ∀ g, S g → W1.heap[g]? = w.heap[g]? := fun g hg => HB1.out.block g (HSS.out g hg)
        have HSV : Hid (SzS S W1 s c a1 a2 us gs) := ⟨hsb, HV.out.keep hkeep⟩
        have HNRW := Lib.hid (HNR.out.keep (fun _ h => h) hkeep)
        have HSB := Lib.hid hsb
        have hBz : B < W1.heap.size := by omega
        have HBX : Hid (W1.heap[B]? = some (.cells #[.int .i64 k, .string ⟨nm.toArray⟩, .slice an ns.length cn, .slice ak ks.length ck] 25 (0, 0))) := by rw [hB]; exact HX1.out
        clear hsb hkeep y0 y1 y2 y3 y4 y5
        go_wp2_with fail
        refine wp_region_by (QJ (fun (_ : Unit) i => match i with | 0 => .pointer (some ⟨wb, 0, none⟩) | 1 => .pointer (some ⟨wb, 0, none⟩) | 2 => .pointer (some ⟨wb, 0, none⟩) | 3 => .agg #[.int .i64 c.k, .string c.n, .slice c.an c.ln c.cn, .slice c.ak c.lk c.ck, .slice a1 s.types.length c1, .slice a2 s.sigs.length c2] | 4 => .agg #[.int .i64 k, .string ⟨nm.toArray⟩, .slice an ns.length cn, .slice ak ks.length ck] | 5 => .int .i64 (ownE (hasZ s.types) k nm ns ks.length : Nat) | 6 => .int .i64 (ownE (hasZ s.types) k nm ns ks.length : Nat) | _ => undef) (fun (_ : Unit) _ v => Below W1.heap.size W1 v)) (by kernel_rfl) ?_ ?_ ?_
        · exact ⟨by simp, Closed.start _, (), Fr.start _ _ _, Below.drew (Below.refl _ _)⟩
        · intro listed b v q hJ hi
          obtain ⟨hsz, hC, x, hF, hM⟩ := hJ
          obtain ⟨hl1, hiN⟩ := not_up hsz hi
          obtain ⟨_, o, ho, hdeps⟩ := mem_ready.1 hi
          have hiN : q < 7 := hiN
          obtain rfl | rfl | rfl | rfl | rfl | rfl | rfl : q = 0 ∨ q = 1 ∨ q = 2 ∨ q = 3 ∨ q = 4 ∨ q = 5 ∨ q = 6 := by omega
          · cases ho
            have e0 := hF.old_is 0 (by rfl) rfl
            refine QJ.quiet (x := x) hsz hC hi hF (Slots.of (by rfl)) rfl (wanted_none rfl) hM ?_
            show _ = Result.ok (Next.value (.pointer (some ⟨wb, 0, none⟩))) v
            simp [execOp, go_sem, e0]
          · cases ho
            have e23 : b.tmps[23]? = some (.pointer (some ⟨wb, 0, none⟩)) := hF.up 0 23 rfl (hdeps ⟨0, .data⟩ (by simp) rfl)
            refine QJ.quiet (x := x) hsz hC hi hF (Slots.of (by rfl)) rfl (wanted_none rfl) hM ?_
            show _ = Result.ok (Next.value (.pointer (some ⟨wb, 0, none⟩))) v
            simp [execOp, go_sem, e23]
          · cases ho
            have e24 : b.tmps[24]? = some (.pointer (some ⟨wb, 0, none⟩)) := hF.up 1 24 rfl (hdeps ⟨1, .data⟩ (by simp) rfl)
            refine QJ.quiet (x := x) hsz hC hi hF (Slots.of (by rfl)) rfl (wanted_none rfl) hM ?_
            show _ = Result.ok (Next.value (.pointer (some ⟨wb, 0, none⟩))) v
            simp [execOp, go_sem, e24]
          · cases ho
            obtain ⟨y0, y1, y2, y3, y4, y5, y6⟩ := seven_blk ((hM.block wb (by omega)).trans HWKN.out)
            have e25 : b.tmps[25]? = some (.pointer (some ⟨wb, 0, none⟩)) := hF.up 2 25 rfl (hdeps ⟨2, .data⟩ (by simp) rfl)
            refine QJ.quiet (x := x) hsz hC hi hF (Slots.of (by rfl)) rfl (wanted_none rfl) hM ?_
            show _ = Result.ok (Next.value (.agg #[.int .i64 c.k, .string c.n, .slice c.an c.ln c.cn, .slice c.ak c.lk c.ck, .slice a1 s.types.length c1, .slice a2 s.sigs.length c2])) v
            simp [execOp, go_sem, e25, y0, y1, y2, y3, y4, y5]
          · cases ho
            obtain ⟨⟨y0, y1, y2, y3⟩, _⟩ := four_blk ((hM.block w.heap.size (by omega)).trans HX1.out)
            have e4 := hF.old_is 4 (by rfl) rfl
            refine QJ.quiet (x := x) hsz hC hi hF (Slots.of (by rfl)) rfl (wanted_none rfl) hM ?_
            show _ = Result.ok (Next.value (.agg #[.int .i64 k, .string ⟨nm.toArray⟩, .slice an ns.length cn, .slice ak ks.length ck])) v
            simp [execOp, go_sem, e4, y0, y1, y2, y3]
          · cases ho
            have e26 : b.tmps[26]? = some (.agg #[.int .i64 c.k, .string c.n, .slice c.an c.ln c.cn, .slice c.ak c.lk c.ck, .slice a1 s.types.length c1, .slice a2 s.sigs.length c2]) := hF.up 3 26 rfl (hdeps ⟨3, .data⟩ (by simp) rfl)
            have e27 : b.tmps[27]? = some (.agg #[.int .i64 k, .string ⟨nm.toArray⟩, .slice an ns.length cn, .slice ak ks.length ck]) := hF.up 4 27 rfl (hdeps ⟨4, .data⟩ (by simp) rfl)
            refine QJ.call (x := x) (f := 70) (args := #[.agg #[.int .i64 c.k, .string c.n, .slice c.an c.ln c.cn, .slice c.ak c.lk c.ck, .slice a1 s.types.length c1, .slice a2 s.sigs.length c2], .agg #[.int .i64 k, .string ⟨nm.toArray⟩, .slice an ns.length cn, .slice ak ks.length ck]]) hsz hC hi hF (Slots.of (by rfl)) rfl (wanted_none rfl) (by simp [execOp, go_sem, e26, e27]) (own_ref s c a1 a2 us gs c1 c2 k nm ns ks an ak cn ck v (HSV.out.anyB hM) (HNRW.out.keep (fun g hg => Nat.lt_of_lt_of_le (HSB.out g hg) hM.size) (fun g hg => hM.block g (HSB.out g hg))) hl HFT.out) ?_
            rintro e w' ⟨rfl, hb⟩
            exact ⟨(), rfl, fun _ _ => rfl, hM.trans (hb.mono hM.size)⟩
          · cases ho
            have e28 : b.tmps[28]? = some (.int .i64 (ownE (hasZ s.types) k nm ns ks.length : Nat)) := hF.up 5 28 rfl (hdeps ⟨5, .data⟩ (by simp) rfl)
            refine QJ.quiet (x := x) hsz hC hi hF (Slots.of (by rfl)) rfl (wanted_none rfl) hM ?_
            show _ = Result.ok (Next.value (.int .i64 (ownE (hasZ s.types) k nm ns ks.length : Nat))) v
            simp [execOp, go_sem, e28]
        · intro listed b W2 hJ hr
          obtain ⟨hsz, hC, x, hF, hM⟩ := hJ
          have hall := all_upB (by rfl) hsz hr
          have hb : b = putAll _ _ _ 7 := hF.done (Slots.of (by rfl)) hall
          subst hb
          simp only [putAll]
          simp [dstOf]
          have hb2 : Below wb w W2 := HB1.out.trans (hM.mono (by omega))
          have hk2 : Kp wb w W2 := HK1.out.below hM
          have hbx2 := (hM.block B hBz).trans HBX.out
          have hwk2 := (hM.block wb (by omega)).trans HWKN.out
          obtain ⟨E, hE⟩ : ∃ E, E = ownE (hasZ s.types) k nm ns ks.length := ⟨_, rfl⟩
          rw [← hE]
          have hrest : E = 0 → allZ (hasZ s.types) (d + 1) (n + 1) (ks.drop 0) = full ∧ n + 1 ≤ 400 := fun e => ⟨by rw [← HFU.out, if_neg h400, if_neg h12, ← hE, if_neg (by omega)]; rfl, by omega⟩
          have hbad : E ≠ 0 → full = (E, n + 1) := fun e => by rw [← HFU.out, if_neg h400, if_neg h12, ← hE, if_pos e]
          have HB2 := Lib.hid hb2; have HK2 := Lib.hid hk2; have HBX2 := Lib.hid hbx2; have HWK2 := Lib.hid hwk2; have HRE := Lib.hid hrest; have HBA := Lib.hid hbad
          clear hM hF hC hall hr hsz hb2 hk2 hbx2 hwk2 hrest hbad hE
          subst hB
          go_wp2_with fail
          go_loopw [7, 8] (fun v7 v8 wr => ∃ j e n', MayR S w wb #[.int .i64 k, .string ⟨nm.toArray⟩, .slice an ns.length cn, .slice ak ks.length ck] s c a1 a2 us gs c1 c2 (d + 1) ks full v7 v8 wr j e n') (fun _ v8 _ => ks.length - (intOf v8).toNat)
          case atStart => exact ⟨0, E, n + 1, rfl, rfl, Nat.zero_le _, HRE.out, HBA.out, HBX2.out, HWK2.out, HB2.out, HK2.out⟩
          case round =>
            obtain ⟨j, e, n', h⟩ := hrel
            obtain rfl := h.slot
            obtain rfl := h.err
            have hle := h.le
            obtain ⟨⟨t0, t1, t2, t3⟩, _⟩ := four_blk h.box
            have hbz := (Array.getElem?_eq_some_iff.1 h.box).1
            have H := Lib.hid h
            clear h
            by_cases hj : j < ks.length
            · have hjz : (j : Int) < (ks.length : Int) := by omega
              have hj0 : (0 : Int) ≤ (j : Int) := by omega
              by_cases he : e = 0
              · subst he
                obtain ⟨hrest, hn'⟩ := H.out.rest rfl
                have hju : j < vs.length := by rw [HKL.out]; exact hj
                obtain ⟨g, o, rfl, hg, hc⟩ := four_at HKR.out HSS.out j hju
                obtain ⟨q0, q1, q2, q3⟩ := hc wr (fun i hi => H.out.below.block i hi)
                have C : Calls Try.prog 43 #[.pointer (some ⟨wb, 0, none⟩), .agg #[.int .i64 vs[j].k, .string vs[j].n, .slice vs[j].an vs[j].ln vs[j].cn, .slice vs[j].ak vs[j].lk vs[j].ck], .int .i64 ((d : Int) + 1)] wr _ := HIH.out j hj vs[j] (d + 1) n' wr HSS.out (Array.getElem?_eq_some_iff.1 H.out.walk).1 hn' (by omega) (HV.out.keep (fun g hg => H.out.below.block g (HSS.out g hg))) ((HU.out j hj hju).keep (fun _ h => h) (fun g hg => H.out.below.block g (HSS.out g hg))) H.out.walk
                rw [allZ_drop hj] at hrest
                have hle2 := oneZ_le (hasZ s.types) ks[j] (d + 1) n' hn'
                generalize oneZ (hasZ s.types) (d + 1) n' ks[j] = r at *
                obtain ⟨e2, n2⟩ := r
                have HC := Lib.hid C; have HRE2 := Lib.hid hrest; have HLE := Lib.hid hle2
                clear C hrest hc hle2
                generalize vs[j] = x at *
                go_wp2_with (go_at_call 43; (with_reducible refine HC.out.mono ?_); rintro e3 w2 ⟨rfl, x2, x3, x4⟩; have HX2 := Lib.hid x2; have HX3 := Lib.hid x3; have HX4 := Lib.hid x4; clear x2 x3 x4)
                go_roundw
                case rel => exact ⟨j + 1, e2, n2, by go_num, rfl, by omega, fun h => ⟨by have := HRE2.out; rw [if_pos h] at this; exact this, HLE.out h⟩, fun h => by have := HRE2.out; rw [if_neg h] at this; exact this.symm, (HX4.out.blk _ hbz (by omega)).trans H.out.box, HX2.out, H.out.below.trans HX3.out, ⟨Nat.le_trans H.out.kp.size HX4.out.size, fun g h1 h2 => (HX4.out.blk g (Nat.lt_of_lt_of_le h1 H.out.kp.size) h2).trans (H.out.kp.blk g h1 h2)⟩⟩
                case measure => simp [intOf]; omega
              · have hez : ((e : Int) == 0) = false := by rw [beq_eq_false_iff_ne]; omega
                have hfe := H.out.bad he
                have HE := Lib.hid hfe
                clear hfe he
                go_wp2
                go_ret
                exact ⟨ret_intZ (by rw [HE.out]), by rw [HE.out]; exact H.out.walk, H.out.below, H.out.kp⟩
            · have hjz : ¬ (j : Int) < (ks.length : Int) := by omega
              have hfe : full = (e, n') := by
                by_cases he : e = 0
                · have := (H.out.rest he).1
                  rw [List.drop_of_length_le (by omega), allZ] at this
                  rw [← this, he]
                · exact H.out.bad he
              have HE := Lib.hid hfe
              clear hfe
              go_wp2
              go_ret
              exact ⟨ret_intZ (by rw [HE.out]), by rw [HE.out]; exact H.out.walk, H.out.below, H.out.kp⟩
theorem may_all (S : Nat → Prop) (wb : Nat) (s : Sz) (c : C4) (a1 a2 : Option Addr) (us : List (List UInt8 × C4)) (gs : List (List UInt8 × G6)) (c1 c2 : Nat) (hl : s.types.length ≤ maxLen) : ∀ (N : Nat) (t : Tz), sizeZ t ≤ N → fitZ t = true → MayP S wb s c a1 a2 us gs c1 c2 t
  | 0, .mk k n ns ks, h, _ => by simp only [sizeZ] at h; omega
  | N + 1, .mk k n ns ks, h, hf => by
    have h5 := (fitZ_mk hf).2.2.2.2
    exact may_step S wb s c a1 a2 us gs c1 c2 hl k n ns ks hf fun i hi => may_all S wb s c a1 a2 us gs c1 c2 hl N ks[i] (by have := sizeZ_mem ks i hi; simp only [sizeZ] at h; omega) (fitZs_mem ks h5 i hi)
theorem may_ref (S : Nat → Prop) (wb : Nat) (s : Sz) (c : C4) (a1 a2 : Option Addr) (us : List (List UInt8 × C4)) (gs : List (List UInt8 × G6)) (c1 c2 : Nat) (hl : s.types.length ≤ maxLen) (t : Tz) (hf : fitZ t = true) : MayP S wb s c a1 a2 us gs c1 c2 t := may_all S wb s c a1 a2 us gs c1 c2 hl _ t (Nat.le_refl _) hf
end Sp
end Go.Proofs.Ytjjpjkkaogfoaaa

namespace Go.Proofs.Ytjjpjkkaogfoaaa
open Go.RowKit
namespace Sp
open Sc

mutual
/-- Whether an Opt stands right in an Opt. -/
def nestR (l : List NT) : Tz → Bool
  | .mk k _ _ ks => (decide (k = 6) && decide ((openR l (l.length + 1) (kid0 ks)).kind = 6)) || nestsR l ks
def nestsR (l : List NT) : List Tz → Bool
  | [] => false
  | t :: ks => nestR l t || nestsR l ks
end
mutual
/-- Each Opt has a kid. -/
def kidsOk : Tz → Bool
  | .mk k _ _ ks => (!decide (k = 6) || decide (0 < ks.length)) && kidsOks ks
def kidsOks : List Tz → Bool
  | [] => true
  | t :: ks => kidsOk t && kidsOks ks
end
theorem kidsOks_mem : ∀ (ks : List Tz), kidsOks ks = true → ∀ (k : Nat) (h : k < ks.length), kidsOk ks[k] = true
  | t :: ks, hg, 0, _ => by simp only [kidsOks, Bool.and_eq_true] at hg; exact hg.1
  | t :: ks, hg, k + 1, h => by simp only [kidsOks, Bool.and_eq_true] at hg; exact kidsOks_mem ks hg.2 k (by simpa using h)
theorem nestsR_drop {l : List NT} {ks : List Tz} {i : Nat} (h : i < ks.length) : nestsR l (ks.drop i) = (nestR l ks[i] || nestsR l (ks.drop (i + 1))) := by rw [List.drop_eq_getElem_cons h, nestsR]
/-- What a call of opts leaves. -/
def OptP (S : Nat → Prop) (s : Sz) (c : C4) (a1 a2 : Option Addr) (us : List (List UInt8 × C4)) (gs : List (List UInt8 × G6)) (c1 c2 : Nat) (t : Tz) : Prop := ∀ (ct : C4) (w : World), (∀ g, S g → g < w.heap.size) → SzV w S s c a1 us a2 gs → TzV w S t ct →
  Calls Try.prog 47 #[.agg #[.int .i64 c.k, .string c.n, .slice c.an c.ln c.cn, .slice c.ak c.lk c.ck, .slice a1 s.types.length c1, .slice a2 s.sigs.length c2], .agg #[.int .i64 ct.k, .string ct.n, .slice ct.an ct.ln ct.cn, .slice ct.ak ct.lk ct.ck]] w fun e w' => e = .returned (.bool (nestR s.types t)) ∧ Below w.heap.size w w'
structure OpsR (w : World) (sc tc : Array Value) (l : List NT) (full : Bool) (ks : List Tz) (iv : Value) (wr : World) (j : Nat) : Prop where
  slot : iv = .int .i64 j
  le : j ≤ ks.length
  rest : nestsR l (ks.drop j) = full
  sbox : wr.heap[w.heap.size]? = some (.cells sc 29 (0, 0))
  tbox : wr.heap[w.heap.size + 1]? = some (.cells tc 25 (0, 0))
  size : w.heap.size + 2 ≤ wr.heap.size
  below : Below w.heap.size w wr
set_option maxRecDepth 100000 in
set_option maxHeartbeats 16000000 in
theorem opts_step (S : Nat → Prop) (s : Sz) (c : C4) (a1 a2 : Option Addr) (us : List (List UInt8 × C4)) (gs : List (List UInt8 × G6)) (c1 c2 : Nat) (hl : s.types.length ≤ 1000000) (k : Int) (nm : List UInt8) (ns : List (List UInt8)) (ks : List Tz) (hko : kidsOk (.mk k nm ns ks) = true) (hkl : ks.length ≤ maxLen) (ih : ∀ i (h : i < ks.length), OptP S s c a1 a2 us gs c1 c2 ks[i]) : OptP S s c a1 a2 us gs c1 c2 (.mk k nm ns ks) := by
  intro ct w hS hV hT
  unfold maxLen at hkl
  rw [kidsOk] at hko
  cases hT with
  | mk _ _ _ _ an cn ak ck vs hvl hnr hkr hu =>
    obtain ⟨W0, hW0⟩ : ∃ W0, W0 = (w.alloc (.cells #[.int .i64 c.k, .string c.n, .slice c.an c.ln c.cn, .slice c.ak c.lk c.ck, .slice a1 s.types.length c1, .slice a2 s.sigs.length c2] 29)).alloc (.cells #[.int .i64 k, .string ⟨nm.toArray⟩, .slice an ns.length cn, .slice ak ks.length ck] 25) := ⟨_, rfl⟩
    have hb0 : Below w.heap.size w W0 := by rw [hW0]; exact ((Below.refl _ _).alloc (Nat.le_refl _) _).alloc (by simp) _
    have hz0 : W0.heap.size = w.heap.size + 2 := by rw [hW0]; simp
    have hs0 : W0.heap[w.heap.size]? = some (.cells #[.int .i64 c.k, .string c.n, .slice c.an c.ln c.cn, .slice c.ak c.lk c.ck, .slice a1 s.types.length c1, .slice a2 s.sigs.length c2] 29 (0, 0)) := by rw [hW0, blk_if, if_neg (by simp), blk_if, if_pos rfl]
    have ht0 : W0.heap[w.heap.size + 1]? = some (.cells #[.int .i64 k, .string ⟨nm.toArray⟩, .slice an ns.length cn, .slice ak ks.length ck] 25 (0, 0)) := by rw [hW0, blk_if, if_pos (by simp)]
    generalize hB : nestR s.types (.mk k nm ns ks) = B
    rw [nestR] at hB
    have HSS := Lib.hid hS; have HV := Lib.hid hV; have HKR := Lib.hid hkr; have HU := Lib.hid hu; have HIH := Lib.hid ih; have HW0 := Lib.hid hW0; have HB0 := Lib.hid hb0; have HS0 := Lib.hid hs0; have HT0 := Lib.hid ht0; have HKL := Lib.hid hvl
    clear hS hV hkr hu ih hW0 hb0 hs0 ht0 hvl hnr
    by_cases h6 : k = 6
    · subst h6
      simp only [decide_true, Bool.not_true, Bool.false_or, Bool.and_eq_true, decide_eq_true_eq, Bool.true_and] at hko hB
      obtain ⟨hpos, _⟩ := hko
      have hlu : 0 < vs.length := by rw [HKL.out]; exact hpos
      have hne0 : ¬ ks = [] := fun e => by rw [e] at hpos; exact absurd hpos (by simp)
      obtain ⟨g, o, rfl, hg, hc⟩ := four_at HKR.out HSS.out 0 hlu
      simp only [Nat.zero_mul, Nat.add_zero] at hc
      have hk0 : kid0 ks = ks[0] := by unfold kid0; cases ks with | nil => exact absurd hpos (by simp) | cons a b => rfl
      rw [hk0] at hB
      obtain ⟨K, hK⟩ : ∃ K, K = (openR s.types (s.types.length + 1) ks[0]).kind := ⟨_, rfl⟩
      rw [← hK] at hB
      obtain ⟨kb, hkb⟩ : ∃ kb, (K == 6) = kb := ⟨_, rfl⟩
      have HKB := Lib.hid hkb
      clear hkb
      have hfld : ∀ (d1 : Int) (d2 : ByteArray) (d3 : Option Addr) (d4 d5 : Nat) (d6 : Option Addr) (d7 d8 : Nat) (w : World), (Instr.field 25 (.agg #[.int .i64 d1, .string d2, .slice d3 d4 d5, .slice d6 d7 d8]) 0).run Try.prog w = .ok (.int .i64 d1) w := fun _ _ _ _ _ _ _ _ _ => by kernel_rfl
      have hxv := HU.out 0 hpos hlu
      generalize vs[0] = x0 at *
      have HX0 := Lib.hid hxv
      clear hxv
      have HC0 := Lib.hid hc; have HK : Hid ((openR s.types (s.types.length + 1) ks[0]).kind = K) := hK.symm; have HB := Lib.hid hB
      clear hc hK hB hk0
      go_enter Try.func47, Try.ntmps47
      go_wp2_with fail
      rw [← HW0.out]
      refine wp_region_by (QJ (fun (y : C4) i => match i with | 0 => .pointer (some ⟨w.heap.size + 1, 0, none⟩) | 1 => .int .i64 6 | 2 => .bool true | 3 => .bool true | 4 => .agg #[.int .i64 c.k, .string c.n, .slice c.an c.ln c.cn, .slice c.ak c.lk c.ck, .slice a1 s.types.length c1, .slice a2 s.sigs.length c2] | 5 => .pointer (some ⟨w.heap.size + 1, 3, none⟩) | 6 => .slice (some ⟨g, o, none⟩) ks.length ck | 7 => .pointer (some ⟨g, o, none⟩) | 8 => .agg #[.int .i64 x0.k, .string x0.n, .slice x0.an x0.ln x0.cn, .slice x0.ak x0.lk x0.ck] | 9 => .agg #[.int .i64 y.k, .string y.n, .slice y.an y.ln y.cn, .slice y.ak y.lk y.ck] | 10 => .int .i64 K | 11 => .bool kb | 12 => .bool kb | _ => undef) (fun (y : C4) listed v => Below W0.heap.size W0 v ∧ (listed.getD 9 false = true → y.k = K))) (by kernel_rfl) ?_ ?_ ?_
      · exact ⟨by simp, Closed.start _, ⟨0, ⟨#[]⟩, none, 0, 0, none, 0, 0⟩, Fr.start _ _ _, Below.drew (Below.refl _ _), fun h => by simp at h⟩
      · intro listed b v q hJ hi
        obtain ⟨hsz, hC, y, hF, hM⟩ := hJ
        obtain ⟨hl1, hiN⟩ := not_up hsz hi
        obtain ⟨_, o, ho, hdeps⟩ := mem_ready.1 hi
        have hiN : q < 13 := hiN
        obtain rfl | rfl | rfl | rfl | rfl | rfl | rfl | rfl | rfl | rfl | rfl | rfl | rfl : q = 0 ∨ q = 1 ∨ q = 2 ∨ q = 3 ∨ q = 4 ∨ q = 5 ∨ q = 6 ∨ q = 7 ∨ q = 8 ∨ q = 9 ∨ q = 10 ∨ q = 11 ∨ q = 12 := by omega
        · cases ho
          have e3 := hF.old_is 3 (by rfl) rfl
          refine QJ.quiet (x := y) hsz hC hi hF (Slots.of (by rfl)) rfl (wanted_none rfl) ⟨hM.1, fun h => hM.2 (by rw [getD_setN (show 0 ≠ 9 by decide)] at h; exact h)⟩ ?_
          show _ = Result.ok (Next.value (.pointer (some ⟨w.heap.size + 1, 0, none⟩))) v
          simp [execOp, go_sem, e3]
        · cases ho
          obtain ⟨⟨y0, y1, y2, y3⟩, _⟩ := four_blk ((hM.1.block (w.heap.size + 1) (by omega)).trans HT0.out)
          have e6 : b.tmps[6]? = some (.pointer (some ⟨w.heap.size + 1, 0, none⟩)) := hF.up 0 6 rfl (hdeps ⟨0, .data⟩ (by simp) rfl)
          refine QJ.quiet (x := y) hsz hC hi hF (Slots.of (by rfl)) rfl (wanted_none rfl) ⟨hM.1, fun h => hM.2 (by rw [getD_setN (show 1 ≠ 9 by decide)] at h; exact h)⟩ ?_
          show _ = Result.ok (Next.value (.int .i64 6)) v
          simp [execOp, go_sem, e6, y0]
        · cases ho
          have e7 : b.tmps[7]? = some (.int .i64 6) := hF.up 1 7 rfl (hdeps ⟨1, .data⟩ (by simp) rfl)
          refine QJ.quiet (x := y) hsz hC hi hF (Slots.of (by rfl)) rfl (wanted_none rfl) ⟨hM.1, fun h => hM.2 (by rw [getD_setN (show 2 ≠ 9 by decide)] at h; exact h)⟩ ?_
          show _ = Result.ok (Next.value (.bool true)) v
          simp [execOp, go_sem, e7]
        · cases ho
          have e8 : b.tmps[8]? = some (.bool true) := hF.up 2 8 rfl (hdeps ⟨2, .data⟩ (by simp) rfl)
          refine QJ.quiet (x := y) hsz hC hi hF (Slots.of (by rfl)) rfl (wanted_none rfl) ⟨hM.1, fun h => hM.2 (by rw [getD_setN (show 3 ≠ 9 by decide)] at h; exact h)⟩ ?_
          show _ = Result.ok (Next.value (.bool true)) v
          simp [execOp, go_sem, e8]
        · cases ho
          obtain ⟨⟨y0, y1, y2, y3, y4, y5⟩, _⟩ := six_blkF ((hM.1.block w.heap.size (by omega)).trans HS0.out)
          have e2 := hF.old_is 2 (by rfl) rfl
          refine QJ.quiet (x := y) hsz hC hi hF (Slots.of (by rfl)) rfl ((wanted_of rfl rfl (show b.tmps[9]? = some (.bool true) from hF.up 3 9 rfl (hdeps ⟨3, .guard⟩ (by simp) rfl))).trans (by rfl)) ⟨hM.1, fun h => hM.2 (by rw [getD_setN (show 4 ≠ 9 by decide)] at h; exact h)⟩ ?_
          show _ = Result.ok (Next.value (.agg #[.int .i64 c.k, .string c.n, .slice c.an c.ln c.cn, .slice c.ak c.lk c.ck, .slice a1 s.types.length c1, .slice a2 s.sigs.length c2])) v
          simp [execOp, go_sem, e2, y0, y1, y2, y3, y4, y5]
        · cases ho
          have e3 := hF.old_is 3 (by rfl) rfl
          refine QJ.quiet (x := y) hsz hC hi hF (Slots.of (by rfl)) rfl ((wanted_of rfl rfl (show b.tmps[9]? = some (.bool true) from hF.up 3 9 rfl (hdeps ⟨3, .guard⟩ (by simp) rfl))).trans (by rfl)) ⟨hM.1, fun h => hM.2 (by rw [getD_setN (show 5 ≠ 9 by decide)] at h; exact h)⟩ ?_
          show _ = Result.ok (Next.value (.pointer (some ⟨w.heap.size + 1, 3, none⟩))) v
          simp [execOp, go_sem, e3]
        · cases ho
          obtain ⟨⟨y0, y1, y2, y3⟩, _⟩ := four_blk ((hM.1.block (w.heap.size + 1) (by omega)).trans HT0.out)
          have e11 : b.tmps[11]? = some (.pointer (some ⟨w.heap.size + 1, 3, none⟩)) := hF.up 5 11 rfl (hdeps ⟨5, .data⟩ (by simp) rfl)
          refine QJ.quiet (x := y) hsz hC hi hF (Slots.of (by rfl)) rfl ((wanted_of rfl rfl (show b.tmps[9]? = some (.bool true) from hF.up 3 9 rfl (hdeps ⟨3, .guard⟩ (by simp) rfl))).trans (by rfl)) ⟨hM.1, fun h => hM.2 (by rw [getD_setN (show 6 ≠ 9 by decide)] at h; exact h)⟩ ?_
          show _ = Result.ok (Next.value (.slice (some ⟨g, o, none⟩) ks.length ck)) v
          simp [execOp, go_sem, e11, y3]
        · cases ho
          have e12 : b.tmps[12]? = some (.slice (some ⟨g, o, none⟩) ks.length ck) := hF.up 6 12 rfl (hdeps ⟨6, .data⟩ (by simp) rfl)
          refine QJ.quiet (x := y) hsz hC hi hF (Slots.of (by rfl)) rfl ((wanted_of rfl rfl (show b.tmps[9]? = some (.bool true) from hF.up 3 9 rfl (hdeps ⟨3, .guard⟩ (by simp) rfl))).trans (by rfl)) ⟨hM.1, fun h => hM.2 (by rw [getD_setN (show 7 ≠ 9 by decide)] at h; exact h)⟩ ?_
          show _ = Result.ok (Next.value (.pointer (some ⟨g, o, none⟩))) v
          simp [execOp, go_sem, e12, hne0]
        · cases ho
          obtain ⟨y0, y1, y2, y3⟩ := HC0.out v (fun i hi => (hM.1.block i (by omega)).trans (HB0.out.block i hi))
          have e13 : b.tmps[13]? = some (.pointer (some ⟨g, o, none⟩)) := hF.up 7 13 rfl (hdeps ⟨7, .data⟩ (by simp) rfl)
          refine QJ.quiet (x := y) hsz hC hi hF (Slots.of (by rfl)) rfl ((wanted_of rfl rfl (show b.tmps[9]? = some (.bool true) from hF.up 3 9 rfl (hdeps ⟨3, .guard⟩ (by simp) rfl))).trans (by rfl)) ⟨hM.1, fun h => hM.2 (by rw [getD_setN (show 8 ≠ 9 by decide)] at h; exact h)⟩ ?_
          show _ = Result.ok (Next.value (.agg #[.int .i64 x0.k, .string x0.n, .slice x0.an x0.ln x0.cn, .slice x0.ak x0.lk x0.ck])) v
          simp [execOp, go_sem, e13, y0, y1, y2, y3]
        · cases ho
          have e10 : b.tmps[10]? = some (.agg #[.int .i64 c.k, .string c.n, .slice c.an c.ln c.cn, .slice c.ak c.lk c.ck, .slice a1 s.types.length c1, .slice a2 s.sigs.length c2]) := hF.up 4 10 rfl (hdeps ⟨4, .data⟩ (by simp) rfl)
          have e14 : b.tmps[14]? = some (.agg #[.int .i64 x0.k, .string x0.n, .slice x0.an x0.ln x0.cn, .slice x0.ak x0.lk x0.ck]) := hF.up 8 14 rfl (hdeps ⟨8, .data⟩ (by simp) rfl)
          refine QJ.call (x := y) (f := 71) (args := #[.agg #[.int .i64 c.k, .string c.n, .slice c.an c.ln c.cn, .slice c.ak c.lk c.ck, .slice a1 s.types.length c1, .slice a2 s.sigs.length c2], .agg #[.int .i64 x0.k, .string x0.n, .slice x0.an x0.ln x0.cn, .slice x0.ak x0.lk x0.ck]]) hsz hC hi hF (Slots.of (by rfl)) rfl ((wanted_of rfl rfl (show b.tmps[9]? = some (.bool true) from hF.up 3 9 rfl (hdeps ⟨3, .guard⟩ (by simp) rfl))).trans (by rfl)) (by simp [execOp, go_sem, e10, e14]) (Open_ref S s ks[0] x0 c a1 a2 us gs c1 c2 v (fun g hg => Nat.lt_of_lt_of_le (HSS.out g hg) (Nat.le_trans HB0.out.size hM.1.size)) (HV.out.keep (fun g hg => (hM.1.block g (by have := HSS.out g hg; omega)).trans (HB0.out.block g (HSS.out g hg)))) (HX0.out.keep (fun _ h => h) (fun g hg => (hM.1.block g (by have := HSS.out g hg; omega)).trans (HB0.out.block g (HSS.out g hg)))) hl) ?_
          rintro e w' ⟨y', rfl, hy', hb⟩
          exact ⟨y', rfl, fun j hj => match j, (show j ≠ 9 by rintro rfl; rw [hl1] at hj; cases hj) with | 0, _ => rfl | 1, _ => rfl | 2, _ => rfl | 3, _ => rfl | 4, _ => rfl | 5, _ => rfl | 6, _ => rfl | 7, _ => rfl | 8, _ => rfl | 9, h => absurd rfl h | 10, _ => rfl | 11, _ => rfl | 12, _ => rfl | _ + 13, _ => rfl, hM.1.trans (hb.mono hM.1.size), fun _ => by rw [← HK.out]; exact hy'.kindZ⟩
        · cases ho
          have hyk := hM.2 (hdeps ⟨9, .data⟩ (by simp) rfl)
          have e15 : b.tmps[15]? = some (.agg #[.int .i64 y.k, .string y.n, .slice y.an y.ln y.cn, .slice y.ak y.lk y.ck]) := hF.up 9 15 rfl (hdeps ⟨9, .data⟩ (by simp) rfl)
          refine QJ.quiet (x := y) hsz hC hi hF (Slots.of (by rfl)) rfl ((wanted_of rfl rfl (show b.tmps[9]? = some (.bool true) from hF.up 3 9 rfl (hdeps ⟨3, .guard⟩ (by simp) rfl))).trans (by rfl)) ⟨hM.1, fun h => hM.2 (by rw [getD_setN (show 10 ≠ 9 by decide)] at h; exact h)⟩ ?_
          show _ = Result.ok (Next.value (.int .i64 K)) v
          simp [execOp, go_sem, e15, hfld, hyk]
        · cases ho
          have e16 : b.tmps[16]? = some (.int .i64 K) := hF.up 10 16 rfl (hdeps ⟨10, .data⟩ (by simp) rfl)
          refine QJ.quiet (x := y) hsz hC hi hF (Slots.of (by rfl)) rfl ((wanted_of rfl rfl (show b.tmps[9]? = some (.bool true) from hF.up 3 9 rfl (hdeps ⟨3, .guard⟩ (by simp) rfl))).trans (by rfl)) ⟨hM.1, fun h => hM.2 (by rw [getD_setN (show 11 ≠ 9 by decide)] at h; exact h)⟩ ?_
          show _ = Result.ok (Next.value (.bool kb)) v
          simp [execOp, go_sem, e16, HKB.out]
        · cases ho
          have e9 : b.tmps[9]? = some (.bool true) := hF.up 3 9 rfl (hdeps ⟨3, .data⟩ (by simp) rfl)
          have e17 : b.tmps[17]? = some (.bool kb) := hF.up 11 17 rfl (hdeps ⟨11, .data⟩ (by simp) rfl)
          refine QJ.quiet (x := y) hsz hC hi hF (Slots.of (by rfl)) rfl (wanted_none rfl) ⟨hM.1, fun h => hM.2 (by rw [getD_setN (show 12 ≠ 9 by decide)] at h; exact h)⟩ ?_
          show _ = Result.ok (Next.value (.bool kb)) v
          simp [execOp, go_sem, e9, e17]
      · intro listed b W2 hJ hr
        obtain ⟨hsz, hC, y, hF, hM, -⟩ := hJ
        have hall := all_upB (by rfl) hsz hr
        have hb : b = putAll _ _ _ 13 := hF.done (Slots.of (by rfl)) hall
        subst hb
        simp only [putAll]
        simp [dstOf, Act.put]
        have hb2 := HB0.out.trans (hM.mono HB0.out.size)
        have hs2 := (hM.block w.heap.size (by omega)).trans HS0.out
        have ht2 := (hM.block (w.heap.size + 1) (by omega)).trans HT0.out
        have hz2 := hM.size
        have HB2 := Lib.hid hb2; have HS2 := Lib.hid hs2; have HT2 := Lib.hid ht2
        clear hM hF hC hall hr hsz hb2 hs2 ht2 HC0 hfld
        by_cases hK6 : K = 6
        · have hr2 : B = true := by rw [← HB.out, hK6]; rfl
          obtain rfl : kb = true := by rw [← HKB.out, hK6]; rfl
          have HRN := Lib.hid hr2
          clear hr2 hK6
          go_wp2
          go_ret
          exact ⟨ret_boolZ HRN.out.symm, HB2.out⟩
        · have hr2 : nestsR s.types (ks.drop 0) = B := by rw [← HB.out, show decide (K = 6) = false by simpa using hK6, Bool.false_or]; rfl
          obtain rfl : kb = false := by rw [← HKB.out, beq_eq_false_iff_ne]; exact hK6
          have HR2 := Lib.hid hr2
          clear hr2 hK6
          go_wp2_with fail
          go_loopw [5] (fun v5 wr => ∃ j, OpsR w #[.int .i64 c.k, .string c.n, .slice c.an c.ln c.cn, .slice c.ak c.lk c.ck, .slice a1 s.types.length c1, .slice a2 s.sigs.length c2] #[.int .i64 6, .string ⟨nm.toArray⟩, .slice an ns.length cn, .slice (some ⟨g, o, none⟩) ks.length ck] s.types B ks v5 wr j) (fun v5 _ => ks.length - (intOf v5).toNat)
          case atStart => exact ⟨0, rfl, Nat.zero_le _, HR2.out, HS2.out, HT2.out, by omega, HB2.out⟩
          case round =>
            obtain ⟨j, h⟩ := hrel
            obtain rfl := h.slot
            have hle := h.le
            have hzr := h.size
            obtain ⟨⟨t0, t1, t2, t3⟩, _⟩ := four_blk h.tbox
            have H := Lib.hid h
            clear h
            by_cases hj : j < ks.length
            · have hjz : (j : Int) < (ks.length : Int) := by omega
              have hj0 : (0 : Int) ≤ (j : Int) := by omega
              have hju : j < vs.length := by rw [HKL.out]; exact hj
              obtain ⟨g', o', e6, hg', hc⟩ := four_at HKR.out HSS.out j hju
              obtain ⟨rfl, rfl⟩ : g = g' ∧ o = o' := by cases e6; exact ⟨rfl, rfl⟩
              have hxv := HU.out j hj hju
              generalize vs[j] = xj at *
              have HCJ := Lib.hid hc; have HXJ := Lib.hid hxv
              have hrest := H.out.rest
              rw [nestsR_drop hj] at hrest
              have HRR := Lib.hid hrest
              clear hc hrest hxv
              go_wp2_with fail
              refine wp_region_by (QJ (fun (_ : Unit) i => match i with | 0 => .agg #[.int .i64 c.k, .string c.n, .slice c.an c.ln c.cn, .slice c.ak c.lk c.ck, .slice a1 s.types.length c1, .slice a2 s.sigs.length c2] | 1 => .pointer (some ⟨w.heap.size + 1, 3, none⟩) | 2 => .slice (some ⟨g, o, none⟩) ks.length ck | 3 => .int .i64 j | 4 => .pointer (some ⟨g, o + j * 4, none⟩) | 5 => .agg #[.int .i64 xj.k, .string xj.n, .slice xj.an xj.ln xj.cn, .slice xj.ak xj.lk xj.ck] | 6 => .bool (nestR s.types ks[j]) | _ => undef) (fun (_ : Unit) _ v => Below wr.heap.size wr v)) (by kernel_rfl) ?_ ?_ ?_
              · exact ⟨by simp, Closed.start _, (), Fr.start _ _ _, Below.drew (Below.refl _ _)⟩
              · intro listed b v q hJ hi
                obtain ⟨hsz, hC, x, hF, hM⟩ := hJ
                obtain ⟨hl1, hiN⟩ := not_up hsz hi
                obtain ⟨_, o, ho, hdeps⟩ := mem_ready.1 hi
                have hiN : q < 7 := hiN
                obtain rfl | rfl | rfl | rfl | rfl | rfl | rfl : q = 0 ∨ q = 1 ∨ q = 2 ∨ q = 3 ∨ q = 4 ∨ q = 5 ∨ q = 6 := by omega
                · cases ho
                  obtain ⟨⟨y0, y1, y2, y3, y4, y5⟩, _⟩ := six_blkF ((hM.block w.heap.size (by omega)).trans H.out.sbox)
                  have e2 := hF.old_is 2 (by rfl) rfl
                  refine QJ.quiet (x := x) hsz hC hi hF (Slots.of (by rfl)) rfl (wanted_none rfl) hM ?_
                  show _ = Result.ok (Next.value (.agg #[.int .i64 c.k, .string c.n, .slice c.an c.ln c.cn, .slice c.ak c.lk c.ck, .slice a1 s.types.length c1, .slice a2 s.sigs.length c2])) v
                  simp [execOp, go_sem, e2, y0, y1, y2, y3, y4, y5]
                · cases ho
                  have e3 := hF.old_is 3 (by rfl) rfl
                  refine QJ.quiet (x := x) hsz hC hi hF (Slots.of (by rfl)) rfl (wanted_none rfl) hM ?_
                  show _ = Result.ok (Next.value (.pointer (some ⟨w.heap.size + 1, 3, none⟩))) v
                  simp [execOp, go_sem, e3]
                · cases ho
                  obtain ⟨⟨y0, y1, y2, y3⟩, _⟩ := four_blk ((hM.block (w.heap.size + 1) (by omega)).trans H.out.tbox)
                  have e27 : b.tmps[27]? = some (.pointer (some ⟨w.heap.size + 1, 3, none⟩)) := hF.up 1 27 rfl (hdeps ⟨1, .data⟩ (by simp) rfl)
                  refine QJ.quiet (x := x) hsz hC hi hF (Slots.of (by rfl)) rfl (wanted_none rfl) hM ?_
                  show _ = Result.ok (Next.value (.slice (some ⟨g, o, none⟩) ks.length ck)) v
                  simp [execOp, go_sem, e27, y3]
                · cases ho
                  have e5 := hF.old_is 5 (by rfl) rfl
                  refine QJ.quiet (x := x) hsz hC hi hF (Slots.of (by rfl)) rfl (wanted_none rfl) hM ?_
                  show _ = Result.ok (Next.value (.int .i64 j)) v
                  simp [execOp, go_sem, e5]
                · cases ho
                  have e28 : b.tmps[28]? = some (.slice (some ⟨g, o, none⟩) ks.length ck) := hF.up 2 28 rfl (hdeps ⟨2, .data⟩ (by simp) rfl)
                  have e29 : b.tmps[29]? = some (.int .i64 j) := hF.up 3 29 rfl (hdeps ⟨3, .data⟩ (by simp) rfl)
                  refine QJ.quiet (x := x) hsz hC hi hF (Slots.of (by rfl)) rfl (wanted_none rfl) hM ?_
                  show _ = Result.ok (Next.value (.pointer (some ⟨g, o + j * 4, none⟩))) v
                  simp [execOp, go_sem, e28, e29, hj0, hjz]
                · cases ho
                  obtain ⟨y0, y1, y2, y3⟩ := HCJ.out v (fun i hi => (hM.block i (by omega)).trans (H.out.below.block i hi))
                  have e30 : b.tmps[30]? = some (.pointer (some ⟨g, o + j * 4, none⟩)) := hF.up 4 30 rfl (hdeps ⟨4, .data⟩ (by simp) rfl)
                  refine QJ.quiet (x := x) hsz hC hi hF (Slots.of (by rfl)) rfl (wanted_none rfl) hM ?_
                  show _ = Result.ok (Next.value (.agg #[.int .i64 xj.k, .string xj.n, .slice xj.an xj.ln xj.cn, .slice xj.ak xj.lk xj.ck])) v
                  simp [execOp, go_sem, e30, y0, y1, y2, y3]
                · cases ho
                  have e26 : b.tmps[26]? = some (.agg #[.int .i64 c.k, .string c.n, .slice c.an c.ln c.cn, .slice c.ak c.lk c.ck, .slice a1 s.types.length c1, .slice a2 s.sigs.length c2]) := hF.up 0 26 rfl (hdeps ⟨0, .data⟩ (by simp) rfl)
                  have e31 : b.tmps[31]? = some (.agg #[.int .i64 xj.k, .string xj.n, .slice xj.an xj.ln xj.cn, .slice xj.ak xj.lk xj.ck]) := hF.up 5 31 rfl (hdeps ⟨5, .data⟩ (by simp) rfl)
                  refine QJ.call (x := x) (f := 47) (args := #[.agg #[.int .i64 c.k, .string c.n, .slice c.an c.ln c.cn, .slice c.ak c.lk c.ck, .slice a1 s.types.length c1, .slice a2 s.sigs.length c2], .agg #[.int .i64 xj.k, .string xj.n, .slice xj.an xj.ln xj.cn, .slice xj.ak xj.lk xj.ck]]) hsz hC hi hF (Slots.of (by rfl)) rfl (wanted_none rfl) (by simp [execOp, go_sem, e26, e31]) (HIH.out j hj xj v (fun g hg => Nat.lt_of_lt_of_le (HSS.out g hg) (by have := hM.size; omega)) (HV.out.keep (fun g hg => (hM.block g (by have := HSS.out g hg; omega)).trans (H.out.below.block g (HSS.out g hg)))) (HXJ.out.keep (fun _ h => h) (fun g hg => (hM.block g (by have := HSS.out g hg; omega)).trans (H.out.below.block g (HSS.out g hg))))) ?_
                  rintro e w' ⟨rfl, hb⟩
                  exact ⟨(), rfl, fun _ _ => rfl, hM.trans (hb.mono hM.size)⟩
              · intro listed b W4 hJ hr
                obtain ⟨hsz, hC, x, hF, hM⟩ := hJ
                have hall := all_upB (by rfl) hsz hr
                have hb : b = putAll _ _ _ 7 := hF.done (Slots.of (by rfl)) hall
                subst hb
                simp only [putAll]
                simp [dstOf, Act.put]
                have hb4 := H.out.below.trans (hM.mono H.out.below.size)
                have hs4 := (hM.block w.heap.size (by omega)).trans H.out.sbox
                have ht4 := (hM.block (w.heap.size + 1) (by omega)).trans H.out.tbox
                have hz4 := hM.size
                have HB4 := Lib.hid hb4; have HS4 := Lib.hid hs4; have HT4 := Lib.hid ht4
                clear hM hF hC hall hr hsz hb4 hs4 ht4
                cases hne : nestR s.types ks[j]
                · have hr2 : nestsR s.types (ks.drop (j + 1)) = B := by have := HRR.out; rw [hne, Bool.false_or] at this; exact this
                  have HRN := Lib.hid hr2
                  clear hr2 hne
                  go_wp2
                  go_roundw
                  case rel => exact ⟨j + 1, by go_num, by omega, HRN.out, HS4.out, HT4.out, by omega, HB4.out⟩
                  case measure => simp [intOf]; omega
                · have hr2 : B = true := by have := HRR.out; rw [hne, Bool.true_or] at this; exact this.symm
                  have HRN := Lib.hid hr2
                  clear hr2 hne
                  go_wp2
                  go_ret
                  exact ⟨ret_boolZ HRN.out.symm, HB4.out⟩
            · have hjz : ¬ (j : Int) < (ks.length : Int) := by omega
              have hr2 : B = false := by rw [← H.out.rest, List.drop_of_length_le (by omega), nestsR]
              have HRN := Lib.hid hr2
              clear hr2
              go_wp2
              go_ret
              exact ⟨ret_boolZ HRN.out.symm, H.out.below⟩
    · have t6 : (k == 6) = false := by rw [beq_eq_false_iff_ne]; exact h6
      have hr2 : nestsR s.types (ks.drop 0) = B := by rw [← hB, show decide (k = 6) = false by simpa using h6, Bool.false_and, Bool.false_or]; rfl
      have HR2 := Lib.hid hr2
      clear hr2 hB hko
      obtain ⟨⟨p0, p1, p2, p3⟩, _⟩ := four_blk HT0.out
      go_enter Try.func47, Try.ntmps47
      go_upto_region 1 with fail
      rw [← HW0.out]
      go_quiet (fail)
      have HS2 : Hid (∀ nq : Nat, (W0.drewN nq).heap[w.heap.size]? = some (.cells #[.int .i64 c.k, .string c.n, .slice c.an c.ln c.cn, .slice c.ak c.lk c.ck, .slice a1 s.types.length c1, .slice a2 s.sigs.length c2] 29 (0, 0))) := fun _ => HS0.out
      have HT2 : Hid (∀ nq : Nat, (W0.drewN nq).heap[w.heap.size + 1]? = some (.cells #[.int .i64 k, .string ⟨nm.toArray⟩, .slice an ns.length cn, .slice ak ks.length ck] 25 (0, 0))) := fun _ => HT0.out
      have HB2 : Hid (∀ nq : Nat, Below w.heap.size w (W0.drewN nq)) := fun _ => below_dNZ HB0.out _
      have hz2 : ∀ nq : Nat, w.heap.size + 2 ≤ (W0.drewN nq).heap.size := fun _ => Nat.le_of_eq hz0.symm
      clear p0 p1 p2 p3
      go_wp2_with fail
      go_loopw [5] (fun v5 wr => ∃ j, OpsR w #[.int .i64 c.k, .string c.n, .slice c.an c.ln c.cn, .slice c.ak c.lk c.ck, .slice a1 s.types.length c1, .slice a2 s.sigs.length c2] #[.int .i64 k, .string ⟨nm.toArray⟩, .slice an ns.length cn, .slice ak ks.length ck] s.types B ks v5 wr j) (fun v5 _ => ks.length - (intOf v5).toNat)
      case atStart => exact ⟨0, rfl, Nat.zero_le _, HR2.out, HS2.out _, HT2.out _, hz2 _, HB2.out _⟩
      case round =>
        obtain ⟨j, h⟩ := hrel
        obtain rfl := h.slot
        have hle := h.le
        have hzr := h.size
        obtain ⟨⟨t0, t1, t2, t3⟩, _⟩ := four_blk h.tbox
        have H := Lib.hid h
        clear h
        by_cases hj : j < ks.length
        · have hjz : (j : Int) < (ks.length : Int) := by omega
          have hj0 : (0 : Int) ≤ (j : Int) := by omega
          have hju : j < vs.length := by rw [HKL.out]; exact hj
          obtain ⟨g, o, rfl, hg, hc⟩ := four_at HKR.out HSS.out j hju
          skip
          have hxv := HU.out j hj hju
          generalize vs[j] = xj at *
          have HCJ := Lib.hid hc; have HXJ := Lib.hid hxv
          have hrest := H.out.rest
          rw [nestsR_drop hj] at hrest
          have HRR := Lib.hid hrest
          clear hc hrest hxv
          go_wp2_with fail
          refine wp_region_by (QJ (fun (_ : Unit) i => match i with | 0 => .agg #[.int .i64 c.k, .string c.n, .slice c.an c.ln c.cn, .slice c.ak c.lk c.ck, .slice a1 s.types.length c1, .slice a2 s.sigs.length c2] | 1 => .pointer (some ⟨w.heap.size + 1, 3, none⟩) | 2 => .slice (some ⟨g, o, none⟩) ks.length ck | 3 => .int .i64 j | 4 => .pointer (some ⟨g, o + j * 4, none⟩) | 5 => .agg #[.int .i64 xj.k, .string xj.n, .slice xj.an xj.ln xj.cn, .slice xj.ak xj.lk xj.ck] | 6 => .bool (nestR s.types ks[j]) | _ => undef) (fun (_ : Unit) _ v => Below wr.heap.size wr v)) (by kernel_rfl) ?_ ?_ ?_
          · exact ⟨by simp, Closed.start _, (), Fr.start _ _ _, Below.drew (Below.refl _ _)⟩
          · intro listed b v q hJ hi
            obtain ⟨hsz, hC, x, hF, hM⟩ := hJ
            obtain ⟨hl1, hiN⟩ := not_up hsz hi
            obtain ⟨_, o, ho, hdeps⟩ := mem_ready.1 hi
            have hiN : q < 7 := hiN
            obtain rfl | rfl | rfl | rfl | rfl | rfl | rfl : q = 0 ∨ q = 1 ∨ q = 2 ∨ q = 3 ∨ q = 4 ∨ q = 5 ∨ q = 6 := by omega
            · cases ho
              obtain ⟨⟨y0, y1, y2, y3, y4, y5⟩, _⟩ := six_blkF ((hM.block w.heap.size (by omega)).trans H.out.sbox)
              have e2 := hF.old_is 2 (by rfl) rfl
              refine QJ.quiet (x := x) hsz hC hi hF (Slots.of (by rfl)) rfl (wanted_none rfl) hM ?_
              show _ = Result.ok (Next.value (.agg #[.int .i64 c.k, .string c.n, .slice c.an c.ln c.cn, .slice c.ak c.lk c.ck, .slice a1 s.types.length c1, .slice a2 s.sigs.length c2])) v
              simp [execOp, go_sem, e2, y0, y1, y2, y3, y4, y5]
            · cases ho
              have e3 := hF.old_is 3 (by rfl) rfl
              refine QJ.quiet (x := x) hsz hC hi hF (Slots.of (by rfl)) rfl (wanted_none rfl) hM ?_
              show _ = Result.ok (Next.value (.pointer (some ⟨w.heap.size + 1, 3, none⟩))) v
              simp [execOp, go_sem, e3]
            · cases ho
              obtain ⟨⟨y0, y1, y2, y3⟩, _⟩ := four_blk ((hM.block (w.heap.size + 1) (by omega)).trans H.out.tbox)
              have e27 : b.tmps[27]? = some (.pointer (some ⟨w.heap.size + 1, 3, none⟩)) := hF.up 1 27 rfl (hdeps ⟨1, .data⟩ (by simp) rfl)
              refine QJ.quiet (x := x) hsz hC hi hF (Slots.of (by rfl)) rfl (wanted_none rfl) hM ?_
              show _ = Result.ok (Next.value (.slice (some ⟨g, o, none⟩) ks.length ck)) v
              simp [execOp, go_sem, e27, y3]
            · cases ho
              have e5 := hF.old_is 5 (by rfl) rfl
              refine QJ.quiet (x := x) hsz hC hi hF (Slots.of (by rfl)) rfl (wanted_none rfl) hM ?_
              show _ = Result.ok (Next.value (.int .i64 j)) v
              simp [execOp, go_sem, e5]
            · cases ho
              have e28 : b.tmps[28]? = some (.slice (some ⟨g, o, none⟩) ks.length ck) := hF.up 2 28 rfl (hdeps ⟨2, .data⟩ (by simp) rfl)
              have e29 : b.tmps[29]? = some (.int .i64 j) := hF.up 3 29 rfl (hdeps ⟨3, .data⟩ (by simp) rfl)
              refine QJ.quiet (x := x) hsz hC hi hF (Slots.of (by rfl)) rfl (wanted_none rfl) hM ?_
              show _ = Result.ok (Next.value (.pointer (some ⟨g, o + j * 4, none⟩))) v
              simp [execOp, go_sem, e28, e29, hj0, hjz]
            · cases ho
              obtain ⟨y0, y1, y2, y3⟩ := HCJ.out v (fun i hi => (hM.block i (by omega)).trans (H.out.below.block i hi))
              have e30 : b.tmps[30]? = some (.pointer (some ⟨g, o + j * 4, none⟩)) := hF.up 4 30 rfl (hdeps ⟨4, .data⟩ (by simp) rfl)
              refine QJ.quiet (x := x) hsz hC hi hF (Slots.of (by rfl)) rfl (wanted_none rfl) hM ?_
              show _ = Result.ok (Next.value (.agg #[.int .i64 xj.k, .string xj.n, .slice xj.an xj.ln xj.cn, .slice xj.ak xj.lk xj.ck])) v
              simp [execOp, go_sem, e30, y0, y1, y2, y3]
            · cases ho
              have e26 : b.tmps[26]? = some (.agg #[.int .i64 c.k, .string c.n, .slice c.an c.ln c.cn, .slice c.ak c.lk c.ck, .slice a1 s.types.length c1, .slice a2 s.sigs.length c2]) := hF.up 0 26 rfl (hdeps ⟨0, .data⟩ (by simp) rfl)
              have e31 : b.tmps[31]? = some (.agg #[.int .i64 xj.k, .string xj.n, .slice xj.an xj.ln xj.cn, .slice xj.ak xj.lk xj.ck]) := hF.up 5 31 rfl (hdeps ⟨5, .data⟩ (by simp) rfl)
              refine QJ.call (x := x) (f := 47) (args := #[.agg #[.int .i64 c.k, .string c.n, .slice c.an c.ln c.cn, .slice c.ak c.lk c.ck, .slice a1 s.types.length c1, .slice a2 s.sigs.length c2], .agg #[.int .i64 xj.k, .string xj.n, .slice xj.an xj.ln xj.cn, .slice xj.ak xj.lk xj.ck]]) hsz hC hi hF (Slots.of (by rfl)) rfl (wanted_none rfl) (by simp [execOp, go_sem, e26, e31]) (HIH.out j hj xj v (fun g hg => Nat.lt_of_lt_of_le (HSS.out g hg) (by have := hM.size; omega)) (HV.out.keep (fun g hg => (hM.block g (by have := HSS.out g hg; omega)).trans (H.out.below.block g (HSS.out g hg)))) (HXJ.out.keep (fun _ h => h) (fun g hg => (hM.block g (by have := HSS.out g hg; omega)).trans (H.out.below.block g (HSS.out g hg))))) ?_
              rintro e w' ⟨rfl, hb⟩
              exact ⟨(), rfl, fun _ _ => rfl, hM.trans (hb.mono hM.size)⟩
          · intro listed b W4 hJ hr
            obtain ⟨hsz, hC, x, hF, hM⟩ := hJ
            have hall := all_upB (by rfl) hsz hr
            have hb : b = putAll _ _ _ 7 := hF.done (Slots.of (by rfl)) hall
            subst hb
            simp only [putAll]
            simp [dstOf, Act.put]
            have hb4 := H.out.below.trans (hM.mono H.out.below.size)
            have hs4 := (hM.block w.heap.size (by omega)).trans H.out.sbox
            have ht4 := (hM.block (w.heap.size + 1) (by omega)).trans H.out.tbox
            have hz4 := hM.size
            have HB4 := Lib.hid hb4; have HS4 := Lib.hid hs4; have HT4 := Lib.hid ht4
            clear hM hF hC hall hr hsz hb4 hs4 ht4
            cases hne : nestR s.types ks[j]
            · have hr2 : nestsR s.types (ks.drop (j + 1)) = B := by have := HRR.out; rw [hne, Bool.false_or] at this; exact this
              have HRN := Lib.hid hr2
              clear hr2 hne
              go_wp2
              go_roundw
              case rel => exact ⟨j + 1, by go_num, by omega, HRN.out, HS4.out, HT4.out, by omega, HB4.out⟩
              case measure => simp [intOf]; omega
            · have hr2 : B = true := by have := HRR.out; rw [hne, Bool.true_or] at this; exact this.symm
              have HRN := Lib.hid hr2
              clear hr2 hne
              go_wp2
              go_ret
              exact ⟨ret_boolZ HRN.out.symm, HB4.out⟩
        · have hjz : ¬ (j : Int) < (ks.length : Int) := by omega
          have hr2 : B = false := by rw [← H.out.rest, List.drop_of_length_le (by omega), nestsR]
          have HRN := Lib.hid hr2
          clear hr2
          go_wp2
          go_ret
          exact ⟨ret_boolZ HRN.out.symm, H.out.below⟩
theorem opts_all (S : Nat → Prop) (s : Sz) (c : C4) (a1 a2 : Option Addr) (us : List (List UInt8 × C4)) (gs : List (List UInt8 × G6)) (c1 c2 : Nat) (hl : s.types.length ≤ 1000000) : ∀ (N : Nat) (t : Tz), sizeZ t ≤ N → fitZ t = true → kidsOk t = true → OptP S s c a1 a2 us gs c1 c2 t
  | 0, .mk k n ns ks, h, _, _ => by simp only [sizeZ] at h; omega
  | N + 1, .mk k n ns ks, h, hf, hk => by
    obtain ⟨_, _, _, h4, h5⟩ := fitZ_mk hf
    have hk2 : kidsOks ks = true := by rw [kidsOk] at hk; simp only [Bool.and_eq_true] at hk; exact hk.2
    exact opts_step S s c a1 a2 us gs c1 c2 hl k n ns ks hk h4 fun i hi => opts_all S s c a1 a2 us gs c1 c2 hl N ks[i] (by have := sizeZ_mem ks i hi; simp only [sizeZ] at h; omega) (fitZs_mem ks h5 i hi) (kidsOks_mem ks hk2 i hi)
theorem opts_ref (S : Nat → Prop) (s : Sz) (c : C4) (a1 a2 : Option Addr) (us : List (List UInt8 × C4)) (gs : List (List UInt8 × G6)) (c1 c2 : Nat) (hl : s.types.length ≤ 1000000) (t : Tz) (hf : fitZ t = true) (hk : kidsOk t = true) : OptP S s c a1 a2 us gs c1 c2 t := opts_all S s c a1 a2 us gs c1 c2 hl _ t (Nat.le_refl _) hf hk
end Sp
end Go.Proofs.Ytjjpjkkaogfoaaa

namespace Go.Proofs.Ytjjpjkkaogfoaaa
open Go.RowKit
namespace Sp
open Sc

/-- The types of a schema, in order. -/
def sgT (g : Sg) : List Tz := g.params ++ [g.result]
def allT (s : Sz) : List Tz := (s.types.map (·.2) ++ [s.main]) ++ s.sigs.flatMap sgT
/-- Types and their cells. -/
structure CsV (w : World) (S : Nat → Prop) (l : List Tz) (cs : List C4) : Prop where
  len : cs.length = l.length
  val : ∀ i (h : i < l.length) (h' : i < cs.length), TzV w S l[i] cs[i]
theorem CsV.nil (w : World) (S : Nat → Prop) : CsV w S [] [] := ⟨rfl, fun i h => by cases h⟩
theorem CsV.append {w : World} {S : Nat → Prop} {l m : List Tz} {cs ds : List C4} (h : CsV w S l cs) (k : CsV w S m ds) : CsV w S (l ++ m) (cs ++ ds) := by
  have hl := h.len
  have kl := k.len
  refine ⟨by simp [hl, kl], fun i h1 h2 => ?_⟩
  simp only [List.length_append] at h1 h2
  by_cases hi : i < l.length
  · rw [List.getElem_append_left hi, List.getElem_append_left (by omega)]
    exact h.val i hi (by omega)
  · rw [List.getElem_append_right (by omega), List.getElem_append_right (by omega)]
    simp only [hl]
    exact k.val _ (by omega) (by omega)
theorem CsV.one {w : World} {S : Nat → Prop} {t : Tz} {c : C4} (h : TzV w S t c) : CsV w S [t] [c] := ⟨rfl, fun i h1 h2 => by
  match i, h1 with
  | 0, _ => exact h⟩
theorem take_map_snoc {α β : Type} (f : α → β) (l : List α) (i : Nat) (h : i < l.length) : (l.take (i + 1)).map f = (l.take i).map f ++ [f l[i]] := by
  rw [List.take_add_one, List.getElem?_eq_getElem h, Option.toList_some, List.map_append]; rfl
theorem take_flat_snoc {α β : Type} (f : α → List β) (l : List α) (i : Nat) (h : i < l.length) : (l.take (i + 1)).flatMap f = (l.take i).flatMap f ++ f l[i] := by
  rw [List.take_add_one, List.getElem?_eq_getElem h, Option.toList_some, List.flatMap_append]; simp
structure AlR (w : World) (S : Nat → Prop) (bc : Array Value) (l : List Tz) (lv : Value) (wr : World) (cs : List C4) : Prop where
  own : wr.ownsRow (w.heap.size + 1) 25 4 lv cs.length (cs.flatMap C4.cells)
  val : CsV w S l cs
  box : wr.heap[w.heap.size]? = some (.cells bc 29 (0, 0))
  size : w.heap.size + 1 ≤ wr.heap.size
  below : Below w.heap.size w wr
theorem AlR.more {w w1 w2 : World} {S : Nat → Prop} {bc : Array Value} {l m : List Tz} {lv lv' : Value} {cs ds : List C4} (h : AlR w S bc l lv w1 cs) (hd : CsV w S m ds) (hb : Below w1.heap.size w1 w2) {w3 : World} (hown : w3.ownsRow (w.heap.size + 1) 25 4 lv' (cs.length + ds.length) (cs.flatMap C4.cells ++ ds.flatMap C4.cells)) (hg : w2.grownBy w3 lv.ownBlock) : AlR w S bc (l ++ m) lv' w3 (cs ++ ds) := by
  have hz := h.size
  have hz2 := hb.size
  have hlt := fun g e => (h.own.lt g e).1
  refine ⟨by simpa [List.flatMap_append] using hown, h.val.append hd, ?_, Nat.le_trans (Nat.le_trans hz hz2) hg.size, ?_⟩
  · exact (hg.block _ (by omega) (fun e => by have := hlt _ e.symm; omega)).trans ((hb.block _ (by omega)).trans h.box)
  · exact (h.below.trans (hb.mono (by omega))).trans (below_grown hg (fun g e => by have := hlt g e; omega) (by omega))
set_option maxRecDepth 100000 in
set_option maxHeartbeats 16000000 in
theorem all_ref (S : Nat → Prop) (s : Sz) (c : C4) (a1 a2 : Option Addr) (us : List (List UInt8 × C4)) (gs : List (List UInt8 × G6)) (c1 c2 : Nat) (w : World) (hS : ∀ g, S g → g < w.heap.size) (hV : SzV w S s c a1 us a2 gs) (hl1 : s.types.length ≤ 12) (hl2 : s.sigs.length ≤ 12) (hp : ∀ i (h : i < s.sigs.length), s.sigs[i].params.length ≤ 4) :
    Calls Try.prog 46 #[.agg #[.int .i64 c.k, .string c.n, .slice c.an c.ln c.cn, .slice c.ak c.lk c.ck, .slice a1 s.types.length c1, .slice a2 s.sigs.length c2]] w fun e w' => ∃ la lc cs, e = .returned (.slice la (allT s).length lc) ∧ RowV w' (Any w') la 4 (cs.map C4.cells) ∧ CsV w S (allT s) cs ∧ Below w.heap.size w w' := by
  obtain ⟨W0, hW0⟩ : ∃ W0, W0 = w.alloc (.cells #[.int .i64 c.k, .string c.n, .slice c.an c.ln c.cn, .slice c.ak c.lk c.ck, .slice a1 s.types.length c1, .slice a2 s.sigs.length c2] 29) := ⟨_, rfl⟩
  have hb0 : Below w.heap.size w W0 := by rw [hW0]; exact (Below.refl _ _).alloc (Nat.le_refl _) _
  have hz0 : W0.heap.size = w.heap.size + 1 := by rw [hW0]; simp
  have hs0 : W0.heap[w.heap.size]? = some (.cells #[.int .i64 c.k, .string c.n, .slice c.an c.ln c.cn, .slice c.ak c.lk c.ck, .slice a1 s.types.length c1, .slice a2 s.sigs.length c2] 29 (0, 0)) := by rw [hW0]; exact heap_alloc_new w _
  obtain ⟨ik, hik, jk, kk, lk⟩ := info_parts infoTz
  have HIk := Lib.hid hik; have HJk := Lib.hid jk; have HKk := Lib.hid kk; have HLk := Lib.hid lk
  have HSS := Lib.hid hS; have HV := Lib.hid hV; have HW0 := Lib.hid hW0; have HB0 := Lib.hid hb0; have HS0 := Lib.hid hs0; have HP := Lib.hid hp
  clear hS hV hW0 hb0 hs0 hik jk kk lk hp
  go_enter Try.func46, Try.ntmps46
  go_wp2_with fail
  rw [← HW0.out]
  go_wp2_with fail
  go_loopw [3, 4] (fun v3 v4 wr => ∃ i cs, v4 = .int .i64 (i : Nat) ∧ i ≤ s.types.length ∧ AlR w S #[.int .i64 c.k, .string c.n, .slice c.an c.ln c.cn, .slice c.ak c.lk c.ck, .slice a1 s.types.length c1, .slice a2 s.sigs.length c2] ((s.types.take i).map (·.2)) v3 wr cs) (fun _ v4 _ => s.types.length - (intOf v4).toNat)
  case atStart => exact ⟨0, [], rfl, Nat.zero_le _, ⟨World.ownsRow_nil _ _ _ _, CsV.nil _ _, HS0.out, by omega, HB0.out⟩⟩
  case round =>
    obtain ⟨i, cs, rfl, hi, h⟩ := hrel
    obtain ⟨⟨s0, s1, s2, s3, s4, s5⟩, _⟩ := six_blkF h.box
    have hzr := h.size
    have hcl := h.val.len
    have hcl2 : cs.length ≤ 12 := by rw [hcl, List.length_map, List.length_take]; omega
    obtain ⟨xa, xc, hx⟩ := own_sliceZ h.own
    subst hx
    have H := Lib.hid h
    clear h hcl
    by_cases hil : i < s.types.length
    · have hiz : (i : Int) < (s.types.length : Int) := by omega
      have hi0 : (0 : Int) ≤ (i : Int) := by omega
      have hju : i < us.length := by rw [HV.out.nt]; exact hil
      obtain ⟨g, o, rfl, hg, hc⟩ := nam_at HV.out.rt HSS.out i hju
      obtain ⟨q0, q1, q2, q3, q4⟩ := hc wr (fun j hj => H.out.below.block j hj)
      obtain ⟨_, hv⟩ := HV.out.vt i hil hju
      have htk : (s.types.take (i + 1)).map (·.2) = (s.types.take i).map (·.2) ++ [s.types[i].2] := take_map_snoc _ _ i hil
      generalize us[i].2 = x at *
      have HVX := Lib.hid hv; have HTK := Lib.hid htk
      clear hc hv htk q0
      go_wp2_with (at_builtin; (refine Sh.wpList_append_fresh rfl _ _ 23 rfl (w.heap.size + 1) 25 ik (.agg #[.int .i64 0, .string ⟨#[]⟩, .slice none 0 0, .slice none 0 0]) 4 72 Try.underlying23 HIk.out HJk.out HKk.out HLk.out rfl (by decide) _ _ _ rfl (H.out.own.alloc _) ⟨wr.heap.size, 0, none⟩ 1 1 [.int .i64 x.k, .string x.n, .slice x.an x.ln x.cn, .slice x.ak x.lk x.ck] rfl rfl (cells_newZ _ _ _) (C4.one x) (by unfold maxLen; omega) (by omega) (by simp; omega) ?_); intro v' w5 hown' hgrow hfr; have HOW := Lib.hid hown'; have HGR := Lib.hid hgrow; clear hown' hgrow hfr)
      go_roundw
      case rel => exact ⟨i + 1, cs ++ [x], by go_num, by omega, by rw [HTK.out]; exact H.out.more (CsV.one HVX.out) ((Below.refl _ _).alloc (Nat.le_refl _) _) HOW.out HGR.out⟩
      case measure => simp [intOf]; omega
    · have hiz : ¬ (i : Int) < (s.types.length : Int) := by omega
      obtain rfl : i = s.types.length := by omega
      have htk : (s.types.take s.types.length).map (·.2) = s.types.map (·.2) := by rw [List.take_length]
      have HTK := Lib.hid htk
      clear htk
      go_wp2_with (at_builtin; (refine Sh.wpList_append_fresh rfl _ _ 23 rfl (w.heap.size + 1) 25 ik (.agg #[.int .i64 0, .string ⟨#[]⟩, .slice none 0 0, .slice none 0 0]) 4 72 Try.underlying23 HIk.out HJk.out HKk.out HLk.out rfl (by decide) _ _ _ rfl (H.out.own.alloc _) ⟨wr.heap.size, 0, none⟩ 1 1 [.int .i64 c.k, .string c.n, .slice c.an c.ln c.cn, .slice c.ak c.lk c.ck] rfl rfl (cells_newZ _ _ _) (C4.one c) (by unfold maxLen; omega) (by omega) (by simp; omega) ?_); intro v' w5 hown' hgrow hfr; have HOW := Lib.hid hown'; have HGR := Lib.hid hgrow; clear hown' hgrow hfr)
      have h2 := H.out.more (CsV.one HV.out.main) ((Below.refl _ _).alloc (Nat.le_refl _) _) HOW.out HGR.out
      rw [HTK.out] at h2
      have H2 := Lib.hid h2
      clear h2 H
      go_loopw [3, 5] (fun v3 v5 wr => ∃ i cs, v5 = .int .i64 (i : Nat) ∧ i ≤ s.sigs.length ∧ AlR w S #[.int .i64 c.k, .string c.n, .slice c.an c.ln c.cn, .slice c.ak c.lk c.ck, .slice a1 s.types.length c1, .slice a2 s.sigs.length c2] ((s.types.map (·.2) ++ [s.main]) ++ (s.sigs.take i).flatMap sgT) v3 wr cs ∧ cs.length ≤ 13 + 5 * i) (fun _ v5 _ => s.sigs.length - (intOf v5).toNat)
      case atStart => exact ⟨0, cs ++ [c], rfl, Nat.zero_le _, by simpa using H2.out, by simp; omega⟩
      case round =>
        obtain ⟨i, cs, rfl, hi, h, hcl2⟩ := hrel
        obtain ⟨⟨s0, s1, s2, s3, s4, s5⟩, _⟩ := six_blkF h.box
        have hzr := h.size
        obtain ⟨xa, xc, hx⟩ := own_sliceZ h.own
        subst hx
        have H := Lib.hid h
        clear h
        by_cases hil : i < s.sigs.length
        · have hiz : (i : Int) < (s.sigs.length : Int) := by omega
          have hi0 : (0 : Int) ≤ (i : Int) := by omega
          have hju : i < gs.length := by rw [HV.out.ng]; exact hil
          obtain ⟨g, o, rfl, hg, hc⟩ := sig_at HV.out.rg HSS.out i hju
          obtain ⟨q0, q1, q2, q3, q4, q5⟩ := hc wr (fun j hj => H.out.below.block j hj)
          obtain ⟨_, hlp, ⟨ps, hpl, hpr, hpv⟩, hres⟩ := HV.out.vg i hil hju
          have hp4 := HP.out i hil
          have htk : (s.sigs.take (i + 1)).flatMap sgT = (s.sigs.take i).flatMap sgT ++ (s.sigs[i].params ++ [s.sigs[i].result]) := take_flat_snoc sgT _ i hil
          generalize s.sigs[i].params = pl at *
          generalize s.sigs[i].result = rt at *
          generalize gs[i].2 = x at *
          obtain ⟨xap, xlp, xcp, xr⟩ := x
          simp only at hlp hpr hres q0 q1 q2 q3 q4 q5
          subst hlp
          have hps : ps.length ≤ 4 := by omega
          have hsrc : ∀ W, Below w.heap.size w W → SrcV W (.slice xap pl.length xcp) pl.length (ps.flatMap C4.cells) := fun W hW => by
            have := (hpr.keep (w' := W) (fun _ h => h) (fun g hg => hW.block g (HSS.out g hg))).front (by decide) (cells4_len ps) pl.length xcp (by rw [List.length_map, hpl]; exact Nat.le_refl _)
            rw [show (List.take pl.length (ps.map C4.cells)) = ps.map C4.cells from List.take_of_length_le (by rw [List.length_map, hpl]; exact Nat.le_refl _)] at this
            exact this
          have hfl : (ps.flatMap C4.cells).length = pl.length * 4 := by rw [← hpl]; have := kdF_len ps; unfold kdF at this; exact this
          have hone : ∀ u ∈ ps.flatMap C4.cells, u.oneCell' = true := kdF_one ps
          have HCC := Lib.hid hc; have HSRC := Lib.hid hsrc; have HFL := Lib.hid hfl; have HON := Lib.hid hone; have HPL := Lib.hid hpl; have HPV : Hid (CsV w S pl ps) := ⟨hpl, hpv⟩; have HRS := Lib.hid hres; have HTK := Lib.hid htk
          have hpl4 : pl.length ≤ 4 := hp4
          clear hc hsrc hfl hone hpl hpv hres htk hpr hps hp4 q0
          go_wp2_with (first
            | (at_builtin; (refine wpList_append_srcV rfl _ _ 23 rfl (w.heap.size + 1) 25 ik (.agg #[.int .i64 0, .string ⟨#[]⟩, .slice none 0 0, .slice none 0 0]) 4 72 Try.underlying23 HIk.out HJk.out HKk.out HLk.out rfl (by decide) _ _ _ rfl H.out.own _ pl.length (ps.flatMap C4.cells) rfl HFL.out (HSRC.out wr H.out.below) HON.out (by unfold maxLen; omega) (by omega) (by omega) ?_); intro v' w5 hown' hgrow hfr; obtain ⟨ya, yc, rfl⟩ := own_sliceZ hown'; have h3 := H.out.more HPV.out (Below.refl _ _) (by rw [HPL.out]; exact hown') hgrow; have HO5 := Lib.hid hown'; have hz5 := h3.size; obtain ⟨⟨m0, m1, m2, m3, m4, m5⟩, _⟩ := six_blkF h3.box; obtain ⟨-, n1, n2, n3, n4, n5⟩ := HCC.out w5 (fun j hj => h3.below.block j hj); simp only at n1 n2 n3 n4 n5; have H3 := Lib.hid h3; clear hown' hgrow hfr h3)
            | (at_builtin; (refine Sh.wpList_append_fresh rfl _ _ 23 rfl (w.heap.size + 1) 25 ik (.agg #[.int .i64 0, .string ⟨#[]⟩, .slice none 0 0, .slice none 0 0]) 4 72 Try.underlying23 HIk.out HJk.out HKk.out HLk.out rfl (by decide) _ _ _ rfl (HO5.out.alloc _) ⟨w5.heap.size, 0, none⟩ 1 1 [.int .i64 xr.k, .string xr.n, .slice xr.an xr.ln xr.cn, .slice xr.ak xr.lk xr.ck] rfl rfl (cells_newZ _ _ _) (C4.one xr) (by unfold maxLen; omega) (by omega) (by simp; omega) ?_); intro v' w7 hown' hgrow hfr; have HOW := Lib.hid hown'; have HGR := Lib.hid hgrow; clear hown' hgrow hfr))
          go_roundw
          case rel =>
            have h4 := H3.out.more (CsV.one HRS.out) ((Below.refl _ _).alloc (Nat.le_refl _) _) (by have := HOW.out; rw [← HPL.out] at this; simpa [List.flatMap_append, C4.cells] using this) HGR.out
            rw [List.append_assoc, List.append_assoc, ← List.append_assoc ((s.sigs.take i).flatMap sgT)] at h4
            exact ⟨i + 1, _, by go_num, by omega, by rw [HTK.out]; simpa [List.append_assoc, sgT] using h4, by have := HPL.out; simp; omega⟩
          case measure => simp [intOf]; omega
        · have hiz : ¬ (i : Int) < (s.sigs.length : Int) := by omega
          obtain rfl : i = s.sigs.length := by omega
          have hval := H.out.val
          have how := H.out.own
          rw [List.take_length] at hval
          obtain ⟨xa', xc', e1, hr⟩ := RowV.own (S := Any wr) (l := cs.map C4.cells) how (cells4_len cs) (by simp) (fun g hg => (how.lt g hg).2)
          obtain ⟨rfl, rfl⟩ : xa = xa' ∧ xc = xc' := by cases e1; exact ⟨rfl, rfl⟩
          have HVL := Lib.hid hval; have HR := Lib.hid hr
          clear hval how e1 hr
          go_wp2
          refine bodyPost_ret (v := .slice xa cs.length xc) (by simp [results, Try.results46, go_sem]) rfl ?_
          exact ⟨xa, ⟨xc, by rw [HVL.out.len]; rfl⟩, cs, HR.out, HVL.out, H.out.below⟩
end Sp
end Go.Proofs.Ytjjpjkkaogfoaaa
