/- ConsSigs: its walk. Written by gen_ksigs.py. -/
import Derived.Test.YteooafgdmpbjeabV48
import Derived.Test.YteooafgdmpbjeabV50
import Derived.Test.YteooafgdmpbjeabV51
import Derived.Test.YteooafgdmpbjeabV28
import Derived.Test.YteooafgdmpbjeabV52
import Derived.Test.YteooafgdmpbjeabV53
import Derived.Test.YteooafgdmpbjeabV18
import Derived.WideShapes
import Derived.ChangeShapes
import Derived.Test.YteooafgdmpbjeabV15
import Derived.ProofKit
import Derived.OpenShut
import Derived.KernelRfl
namespace Go.Proofs.Yteooafgdmpbjeab
open Go.RowKit
namespace Sp
open Sc
set_option maxRecDepth 100000
set_option maxHeartbeats 16000000 in
theorem ConsSigs_any (main : Rw) (types sigs : List Rw) (cm : R4) (at1 at2 : Option Addr) (ut ug : List R4) (c1 c2 : Nat) (w : World) (hM : RwV w main cm) (hT : RwsV w types at1 ut) (hG : RwsV w sigs at2 ug) (hl : types.length ≤ maxLen) (hl2 : sigs.length ≤ maxLen) (nl : List UInt8) :
    Calls Try.prog 6 #[.agg #[.int .i64 cm.k, .int .i64 cm.n, .slice cm.an cm.ln cm.cn, .slice cm.ak cm.lk cm.ck], .slice at1 types.length c1, .slice at2 sigs.length c2, .string ⟨nl.toArray⟩] w fun e w' => e = .returned (.bool true) ∧ Below w.heap.size w w' := by
  have HM := Lib.hid hM; have HT := Lib.hid hT; have HG := Lib.hid hG
  clear hM hT hG
  obtain ⟨W0, hW0⟩ : ∃ W0, W0 = w.alloc (.cells #[.int .i64 cm.k, .int .i64 cm.n, .slice cm.an cm.ln cm.cn, .slice cm.ak cm.lk cm.ck] 45) := ⟨_, rfl⟩
  have hb0 : Below w.heap.size w W0 := by rw [hW0]; exact (Below.refl _ _).alloc (Nat.le_refl _) _
  have hz0 : W0.heap.size = w.heap.size + 1 := by rw [hW0]; simp
  have hs0 : W0.heap[w.heap.size]? = some (.cells #[.int .i64 cm.k, .int .i64 cm.n, .slice cm.an cm.ln cm.cn, .slice cm.ak cm.lk cm.ck] 45 (0, 0)) := by rw [hW0]; exact heap_alloc_new w _
  have HW0 := Lib.hid hW0; have HB0 := Lib.hid hb0; have HS0 := Lib.hid hs0
  clear hW0 hb0 hs0
  go_enter Try.func6, Try.ntmps6
  go_upto_region 1 with fail
  rw [← HW0.out]
  clear HW0
  go_upto_region 3 with (go_at_call 17; (with_reducible refine (known5_any _).mono ?_); rintro e w1 ⟨rfl, x1⟩; have hz1 := x1.size; obtain ⟨⟨p0, p1, p2, p3⟩, _⟩ := four_blk ((x1.block w.heap.size (by omega)).trans HS0.out); have HS1 := Lib.hid ((x1.block w.heap.size (by omega)).trans HS0.out); have HB1 := Lib.hid (HB0.out.trans (x1.mono (by omega))); clear x1)
  have CF : Calls Try.prog 18 #[.agg #[.int .i64 cm.k, .int .i64 cm.n, .slice cm.an cm.ln cm.cn, .slice cm.ak cm.lk cm.ck], .slice at1 types.length c1, .slice at2 sigs.length c2] w1 _ := FewAll_any main types sigs cm at1 at2 ut ug c1 c2 w1 (HM.out.later HB1.out) (HT.out.up HB1.out) (HG.out.up HB1.out) hl hl2
  obtain ⟨fa, hfa⟩ : ∃ fa, fewAllR main types sigs = fa := ⟨_, rfl⟩
  rw [hfa] at CF
  have HCF := Lib.hid CF
  clear CF hfa
  cases fa
  · go_wp2_with (go_at_call 18; (with_reducible refine HCF.out.mono ?_); rintro e w2 ⟨rfl, x2⟩; have HX2 := Lib.hid x2; clear x2)
    go_ret
    exact ⟨rfl, HB1.out.trans (HX2.out.mono (by omega))⟩
  · by_cases hnl : 50 < nl.length
    · have hnlz : (50 : Int) < (nl.length : Int) := by omega
      go_wp2_with (go_at_call 18; (with_reducible refine HCF.out.mono ?_); rintro e w2 ⟨rfl, x2⟩; have HX2 := Lib.hid x2; clear x2)
      go_ret
      exact ⟨rfl, HB1.out.trans (HX2.out.mono (by omega))⟩
    have hnlz : ¬ (50 : Int) < (nl.length : Int) := by omega
    go_upto_region 5 with (go_at_call 18; (with_reducible refine HCF.out.mono ?_); rintro e w2 ⟨rfl, x2⟩; have hz2 := x2.size; obtain ⟨⟨m0, m1, m2, m3⟩, _⟩ := four_blk ((x2.block w.heap.size (by omega)).trans HS1.out); have HB2 := Lib.hid (HB1.out.trans (x2.mono (by omega))); clear x2)
    obtain ⟨s, hs⟩ : ∃ s, schR main types sigs = s := ⟨_, rfl⟩
    have hft : s.types.length ≤ 4 := by rw [← hs, schR_types]; omega
    have hfs : s.sigs.length ≤ 4 := by rw [← hs, schR_sigs]; omega
    have hfit : SzFit s := by rw [← hs]; exact schR_fit _ _ _
    have hsh : ShortS s := by rw [← hs]; exact schR_short _ _ _
    have CG := Good_any main types sigs cm at1 at2 ut ug c1 c2 w2 (HM.out.later HB2.out) (HT.out.up HB2.out) (HG.out.up HB2.out) hl hl2 (by rw [hs]; omega) (by rw [hs]; omega) (by rw [hs]; exact hfit)
    rw [hs] at CG
    obtain ⟨E, hE⟩ : ∃ E, refC s = E := ⟨_, rfl⟩
    have hNK : newK s = if E ≠ 0 then (E, default) else schemaK s := by unfold newK; rw [hE]
    rw [hE] at CG
    have HCG := Lib.hid CG; have HE := Lib.hid hE; have HNK := Lib.hid hNK; have HFIT := Lib.hid hfit; have HSH := Lib.hid hsh
    clear CG hs hE hNK hfit hsh p0 p1 p2 p3
    go_upto_region 6 with (go_at_call 19; (refine HCG.out.mono ?_); rintro e w3 ⟨c, a1, n1, us, a2, n2, gs, rfl, hv3, x3⟩; have hz3 := x3.size; have HV3 := Lib.hid hv3; have HB3 := Lib.hid (HB2.out.trans (x3.mono (by have := HB2.out.size; omega))); clear x3 hv3)
    obtain ⟨sb, hsb⟩ : ∃ sb, sb = w3.heap.size := ⟨_, rfl⟩
    obtain ⟨W4, hW4⟩ : ∃ W4, W4 = w3.alloc (.cells #[.int .i64 c.k, .string c.n, .slice c.an c.ln c.cn, .slice c.ak c.lk c.ck, .slice a1 s.types.length n1, .slice a2 s.sigs.length n2] 35) := ⟨_, rfl⟩
    have hz4 : W4.heap.size = w3.heap.size + 1 := by rw [hW4]; simp
    have hb4 : Below w3.heap.size w3 W4 := by rw [hW4]; exact (Below.refl _ _).alloc (Nat.le_refl _) _
    have hs4 : W4.heap[sb]? = some (.cells #[.int .i64 c.k, .string c.n, .slice c.an c.ln c.cn, .slice c.ak c.lk c.ck, .slice a1 s.types.length n1, .slice a2 s.sigs.length n2] 35 (0, 0)) := by rw [hW4, hsb]; exact heap_alloc_new w3 _
    have hv4 : SzV W4 (fun g => g < w3.heap.size) s c a1 us a2 gs := HV3.out.keepS (fun g hg => hb4.block g hg.2) (fun g hg => hg.2)
    have CN := New_any s c a1 a2 us gs n1 n2 W4 (fun g => g < w3.heap.size) (fun g hg => by omega) hv4 HFIT.out HSH.out (by omega) (by omega)
    rw [HNK.out] at CN
    have hbw4 := HB3.out.trans (hb4.mono (by have := HB3.out.size; omega))
    rw [← hW4, ← hsb]
    have hsb4 : sb < W4.heap.size := by omega
    have hw4 := hbw4.size
    have HCN := Lib.hid CN; have HS4 := Lib.hid hs4; have HV4 := Lib.hid hv4; have HBW4 := Lib.hid hbw4
    have hsb5 : w.heap.size < sb := by have := HB3.out.size; omega
    have HSB := Lib.hid hsb
    clear CN hs4 hv4 hbw4 hb4 hW4 HNK hsb
    obtain ⟨⟨p0, p1, p2, p3, p4, p5⟩, _⟩ := six_blkF HS4.out
    by_cases hE0 : E = 0
    · subst hE0
      have hcn := HCN.out
      rw [if_neg (by decide)] at hcn
      obtain ⟨⟨pe, T, N, G, m⟩, hpk⟩ : ∃ pk, schemaK s = pk := ⟨_, rfl⟩
      rw [hpk] at hcn
      have HCN2 := Lib.hid hcn; have HPK := Lib.hid hpk
      clear hcn hpk HCN
      by_cases hp0 : pe = 0
      · subst hp0
        have BK := built_of HE.out (by rw [HPK.out])
        rw [HPK.out] at BK
        have GK := good_of HE.out
        have HOP : Hid (∀ i, i < T.length → openK T N 13 i < T.length ∧ (T.getD (openK T N 13 i) default).kind ≠ 9) := fun i hi => ⟨(open13 GK BK.good BK.names hi).1, (open13 GK BK.good BK.names hi).2.1⟩
        have HL : Hid (∀ k ∈ T, k.kind = 9 → lookN N k.name < T.length) := fun k hk h9 => by
          obtain ⟨x, hx, hxn⟩ := hasZ_iff.1 (BK.good.named k hk h9)
          rw [← hxn]
          exact (BK.names.look x hx).1
        have h120 : T.length ≤ 120 := BK.good.len
        have HBK := Lib.hid BK; have HGK := Lib.hid GK
        clear BK GK
        go_upto_region 9 with (go_at_call 9; (refine HCN2.out.mono ?_); rintro e w5 ⟨⟨k1, -⟩, x5⟩; obtain ⟨tb, rb, nb, mb, gb, ty, nu, vs, rfl, hst⟩ := k1 rfl; have hz5 := x5.size; have HST := Lib.hid hst; have HX5 := Lib.hid x5; clear k1 hst x5)
        clear p0 p1 p2 p3 p4 p5 HCN2 HOP HL
        have HKID := Lib.hid HBK.out.good.toTabW.kids
        have HONCE := Lib.hid (sigs_once HE.out)
        have hglen : G.length = s.sigs.length := HBK.out.glen
        go_wp2_with fail
        go_loopw [13] (fun iv wr => ∃ i : Nat, iv = .int .i64 (i : Nat) ∧ i ≤ s.sigs.length ∧ Hid (∀ j (hj : j < s.sigs.length), j < i → s.sigs[j].name ≠ nl) ∧ Below w5.heap.size w5 wr) (fun iv _ => s.sigs.length - (intOf iv).toNat)
        case atStart => exact ⟨0, rfl, Nat.zero_le _, fun j hj h => absurd h (Nat.not_lt_zero _), Below.refl _ _⟩
        case round =>
          obtain ⟨i, rfl, hle, hno, hbel⟩ := hrel
          have hwr := hbel.size
          have hb4r := HX5.out.trans (hbel.mono hz5)
          have HS := Lib.hid (HST.out.below hbel); have HBL := Lib.hid hbel; have HB4R := Lib.hid hb4r
          have hsr := (hb4r.block sb hsb4).trans HS4.out
          obtain ⟨⟨-, -, -, -, -, p5⟩, _⟩ := six_blkF hsr
          have HSR := Lib.hid hsr
          clear hbel hsr hb4r
          by_cases hlt : i < s.sigs.length
          · have hiz : (i : Int) < (s.sigs.length : Int) := by omega
            have hi0 : (0 : Int) ≤ (i : Int) := by omega
            have hig : i < gs.length := by rw [HV4.out.ng]; exact hlt
            have hiG : i < G.length := by omega
            obtain ⟨gx, ox, rfl, hgx, hcx⟩ := sig_at (wb := w3.heap.size) HV4.out.rg (fun _ h => h) i hig
            have hshort := HSH.out.sigs s.sigs[i] (List.getElem_mem hlt)
            have hsw := HBK.out.sigs i hiG hlt
            obtain ⟨nm, ids, r, ap, cp, rc, ps, eg, ey, ez, el, hpa, hr1, hrv, ps1, ps2, ps3⟩ := sig_pack hsw (HV4.out.vg i hlt hig)
            have CS := fun W (hW : Below wr.heap.size wr W) => tsig_in i W tb rb nb mb gb m ty nu T G vs (HS.out.below hW).tab (HS.out.below hW).sgs hiG (fun j hj e => HONCE.out j i (by omega) hlt (by
              have h1 := HBK.out.sigs j hj (by omega)
              rw [← h1.name, e, hsw.name])) (by rw [hsw.name]; exact hshort.1) (by rw [eg]; show ids.length ≤ 1000; rw [← el]; exact hshort.2.1)
            simp only [eg] at CS
            simp only [ey] at hcx
            obtain ⟨q0, q1, q2, q3, q4, q5⟩ := hcx wr (fun k hk => HB4R.out.block k (by omega))
            have HNN := Lib.hid ez
            have hil4 : ids.length ≤ 1000 := by rw [← el]; exact hshort.2.1
            have HIL := Lib.hid hil4
            clear hil4
            have HCS := Lib.hid CS; have HCX := Lib.hid hcx; have HLT := Lib.hid hlt; have HNO := hno; have HPA := Lib.hid hpa; have HR1 := Lib.hid hr1; have HRV := Lib.hid hrv; have HPS1 := Lib.hid ps1; have HPS2 := Lib.hid ps2; have HPS3 := Lib.hid ps3
            clear CS hsw hcx hshort eg ey ez el hpa hr1 hrv ps1 ps2 ps3 hno
            go_upto_region 13 with (go_at_call 20; (refine (HCS.out _ (by first | exact Below.refl _ _ | exact (Below.refl _ _).drew)).mono ?_); rintro e u1 ⟨pa, pc, rfl, hp1, b1⟩; have hy1 := b1.size; have HP1 := Lib.hid hp1; have HU1 := Lib.hid b1; clear hp1 b1)
            obtain ⟨wo, hwo⟩ : ∃ wo, wo = wr := ⟨wr, rfl⟩
            subst hwo
            have hsbr : sb < wo.heap.size := by omega
            have hbu1 : Below W4.heap.size W4 u1 := HB4R.out.trans (HU1.out.mono (by omega))
            have hzu1 := hbu1.size
            have hs1 := (HU1.out.block sb hsbr).trans HSR.out
            obtain ⟨⟨-, -, -, -, -, p5⟩, _⟩ := six_blkF hs1
            obtain ⟨v0, v1, v2, v3, v4, v5⟩ := HCX.out u1 (fun k hk => hbu1.block k (by omega))
            have HHS := Lib.hid (HS.out.below HU1.out)
            have hr1 := HR1.out
            have hrv := HRV.out
            have hfit := HST.out.tab.fit
            have CT := ttype_in (r + 1) r (Nat.lt_succ_self _) u1.drew tb rb nb mb gb m ty nu T (HHS.out.below (Below.refl _ _).drew).tab HKID.out hr1
            have CSA : ∀ (W : World) (S5 : Nat → Prop) (c5 : C4), Below W4.heap.size W4 W → TzV W S5 (typT T r) c5 → (∀ g, S5 g → g < W.heap.size) → Calls Try.prog 21 #[.agg #[.int .i64 c5.k, .string c5.n, .slice c5.an c5.ln c5.cn, .slice c5.ak c5.lk c5.ck], .agg #[.int .i64 rc.k, .string rc.n, .slice rc.an rc.ln rc.cn, .slice rc.ak rc.lk rc.ck]] W fun e w' => e = .returned (.bool true) ∧ Below W.heap.size W w' :=
              fun W S5 c5 hW h5 hS5 => sameT_any HKID.out hfit hr1 W S5 (fun g => g < w3.heap.size) c5 rc h5 (hrv.keep (fun _ h => h) (fun g hg => hW.block g (by omega))) hS5 (fun g hg => by have := hW.size; omega)
            have hgxu : gx < u1.heap.size := by omega
            have hsbu : sb < u1.heap.size := by omega
            have HCELL : Hid (∀ w' : World, Below u1.heap.size u1 w' → w'.cell? ⟨sb, 5, none⟩ = some (.slice (some ⟨gx, ox, none⟩) s.sigs.length n2) ∧ w'.cell? ⟨gx, ox + i * 6 + 1, none⟩ = some (.slice ap ids.length cp) ∧ w'.cell? ⟨gx, ox + i * 6 + 2, none⟩ = some (.int .i64 rc.k) ∧ w'.cell? ⟨gx, ox + i * 6 + 2 + 1, none⟩ = some (.string rc.n) ∧ w'.cell? ⟨gx, ox + i * 6 + 2 + 2, none⟩ = some (.slice rc.an rc.ln rc.cn) ∧ w'.cell? ⟨gx, ox + i * 6 + 2 + 3, none⟩ = some (.slice rc.ak rc.lk rc.ck)) := fun w' hW => ⟨(hW.cell (p := ⟨sb, 5, none⟩) hsbu).trans p5, (hW.cell (p := ⟨gx, ox + i * 6 + 1, none⟩) hgxu).trans v1, (hW.cell (p := ⟨gx, ox + i * 6 + 2, none⟩) hgxu).trans v2, (hW.cell (p := ⟨gx, ox + i * 6 + 3, none⟩) hgxu).trans v3, (hW.cell (p := ⟨gx, ox + i * 6 + 4, none⟩) hgxu).trans v4, (hW.cell (p := ⟨gx, ox + i * 6 + 5, none⟩) hgxu).trans v5⟩
            have HV0 : Hid (∀ w' : World, Below u1.heap.size u1 w' → w'.cell? ⟨gx, ox + i * 6, none⟩ = some (.string ⟨nm.toArray⟩)) := fun w' hW => (hW.cell (p := ⟨gx, ox + i * 6, none⟩) hgxu).trans v0
            have HCT := Lib.hid CT; have HCSA := Lib.hid CSA; have HBU1 := Lib.hid hbu1; have HFIT2 := Lib.hid hfit
            clear CT CSA hbu1 hfit hrv hr1 p5 v0 v1 v2 v3 v4 v5 HCX HCS hs1 q0 q1 q2 q3 q4 q5
            obtain ⟨p5, v1, v2, v3, v4, v5⟩ := HCELL.out u1.drew (Below.refl _ _).drew
            have hil : (ids.length : Int) = (ids.length : Int) := rfl
            go_region_held3 (fun w' => w'.cell? ⟨sb, 5, none⟩ = some (.slice (some ⟨gx, ox, none⟩) s.sigs.length n2) ∧ w'.cell? ⟨gx, ox + i * 6 + 1, none⟩ = some (.slice ap ids.length cp) ∧ w'.cell? ⟨gx, ox + i * 6 + 2, none⟩ = some (.int .i64 rc.k) ∧ w'.cell? ⟨gx, ox + i * 6 + 2 + 1, none⟩ = some (.string rc.n) ∧ w'.cell? ⟨gx, ox + i * 6 + 2 + 2, none⟩ = some (.slice rc.an rc.ln rc.cn) ∧ w'.cell? ⟨gx, ox + i * 6 + 2 + 3, none⟩ = some (.slice rc.ak rc.lk rc.ck)) (go_keep) (first
              | (go_at_call 22; (refine HCT.out.mono ?_); rintro e u2 ⟨c5, rfl, t5, b5⟩; have hb5 : Below u1.heap.size u1 u2 := (Below.refl _ _).drew.trans b5; obtain ⟨z1, z2, z3, z4, z5, z6⟩ := HCELL.out _ hb5; have HSM := Lib.hid (HCSA.out u2 _ c5 (HBU1.out.trans (hb5.mono hzu1)) t5 (fun g hg => hg.2)))
              | (go_at_call 21; (refine HSM.out.mono ?_); rintro e u3 ⟨rfl, b6⟩; have hb6 := hb5.trans (b6.mono hb5.size); obtain ⟨z1', z2', z3', z4', z5', z6'⟩ := HCELL.out _ hb6))
            have HBU3 := Lib.hid hb6
            clear z1 z2 z3 z4 z5 z6 z1' z2' z3' z4' z5' z6' p5 v1 v2 v3 v4 v5 HSM HCT HCSA b5 b6 hb5 t5 hil
            have hzu3 := hb6.size
            clear hb6
            go_wp2
            go_loopw [17] (fun kv wx => ∃ k : Nat, kv = .int .i64 (k : Nat) ∧ k ≤ ids.length ∧ Below u1.heap.size u1 wx) (fun kv _ => ids.length - (intOf kv).toNat)
            case atStart => exact ⟨0, rfl, Nat.zero_le _, HBU3.out⟩
            case round =>
              obtain ⟨k, rfl, hkl, hbx⟩ := hrel
              obtain ⟨wx, hwx⟩ : ∃ wx, wx = wr := ⟨wr, rfl⟩
              have hzx := hbx.size
              have HBX := Lib.hid hbx
              have HSX := Lib.hid (HHS.out.below hbx)
              clear hbx
              by_cases hk : k < ids.length
              · have hkz : (k : Int) < (ids.length : Int) := by omega
                have hk0 : (0 : Int) ≤ (k : Int) := by omega
                obtain ⟨ga, oa, rfl, hga, hca⟩ := cells_int HP1.out k hk
                obtain ⟨gp, op, rfl, hgp, hcp⟩ := cells_kid HPS2.out k (by have := HPS1.out; omega)
                have hkp : k < ps.length := by have := HPS1.out; omega
                have hjt := HPA.out ids[k] (List.getElem_mem hk)
                have hpv := HPS3.out k hk hkp
                have hfit := HFIT2.out
                obtain ⟨kj, hkj⟩ : ∃ kj, ids[k] = kj := ⟨_, rfl⟩
                obtain ⟨pk, hpk⟩ : ∃ pk, ps[k] = pk := ⟨_, rfl⟩
                rw [hkj] at hca hjt hpv
                rw [hpk] at hcp hpv
                have CT := ttype_in (kj + 1) kj (Nat.lt_succ_self _) wr.drew tb rb nb mb gb m ty nu T (HSX.out.below (Below.refl _ _).drew).tab HKID.out hjt
                have CSA : ∀ (W : World) (S5 : Nat → Prop) (c5 : C4), Below W4.heap.size W4 W → TzV W S5 (typT T kj) c5 → (∀ g, S5 g → g < W.heap.size) → Calls Try.prog 21 #[.agg #[.int .i64 c5.k, .string c5.n, .slice c5.an c5.ln c5.cn, .slice c5.ak c5.lk c5.ck], .agg #[.int .i64 pk.k, .string pk.n, .slice pk.an pk.ln pk.cn, .slice pk.ak pk.lk pk.ck]] W fun e w' => e = .returned (.bool true) ∧ Below W.heap.size W w' :=
                  fun W S5 c5 hW h5 hS5 => sameT_any HKID.out hfit hjt W S5 (fun g => g < w3.heap.size) c5 pk h5 (hpv.keep (fun _ h => h) (fun g hg => hW.block g (by omega))) hS5 (fun g hg => by have := hW.size; omega)
                have hgaw : ga < wr.heap.size := by have := hga.2; omega
                have hgpw : gp < wr.heap.size := by omega
                have hsbw : sb < wr.heap.size := by omega
                have hgxw : gx < wr.heap.size := by omega
                obtain ⟨c5w, c1w, -, -, -, -⟩ := HCELL.out wr HBX.out
                have k0 := hca wr (HBX.out.block ga hga.2)
                obtain ⟨k1, k2, k3, k4⟩ := hcp wr ((HBX.out.block gp (by omega)).trans (HBU1.out.block gp (by omega)))
                have HCL2 : Hid (∀ w' : World, Below wr.heap.size wr w' → w'.cell? ⟨ga, oa + k, none⟩ = some (.int .i64 (kj : Nat)) ∧ w'.cell? ⟨sb, 5, none⟩ = some (.slice (some ⟨gx, ox, none⟩) s.sigs.length n2) ∧ w'.cell? ⟨gx, ox + i * 6 + 1, none⟩ = some (.slice (some ⟨gp, op, none⟩) ids.length cp) ∧ w'.cell? ⟨gp, op + k * 4, none⟩ = some (.int .i64 pk.k) ∧ w'.cell? ⟨gp, op + k * 4 + 1, none⟩ = some (.string pk.n) ∧ w'.cell? ⟨gp, op + k * 4 + 2, none⟩ = some (.slice pk.an pk.ln pk.cn) ∧ w'.cell? ⟨gp, op + k * 4 + 3, none⟩ = some (.slice pk.ak pk.lk pk.ck)) := fun w' hW => ⟨(hW.cell (p := ⟨ga, oa + k, none⟩) hgaw).trans k0, (hW.cell (p := ⟨sb, 5, none⟩) hsbw).trans c5w, (hW.cell (p := ⟨gx, ox + i * 6 + 1, none⟩) hgxw).trans c1w, (hW.cell (p := ⟨gp, op + k * 4, none⟩) hgpw).trans k1, (hW.cell (p := ⟨gp, op + k * 4 + 1, none⟩) hgpw).trans k2, (hW.cell (p := ⟨gp, op + k * 4 + 2, none⟩) hgpw).trans k3, (hW.cell (p := ⟨gp, op + k * 4 + 3, none⟩) hgpw).trans k4⟩
                have HLK := Lib.hid hk
                have HCT := Lib.hid CT; have HCSA := Lib.hid CSA
                clear CT CSA hca hcp hjt hpv hfit hkj hpk c5w c1w k0 k1 k2 k3 k4 hga hgp hwx
                go_upto_region 18 with fail
                obtain ⟨y0, y1, y2, y3, y4, y5, y6⟩ := HCL2.out wr.drew (Below.refl _ _).drew
                go_region_held3 (fun w' => w'.cell? ⟨ga, oa + k, none⟩ = some (.int .i64 (kj : Nat)) ∧ w'.cell? ⟨sb, 5, none⟩ = some (.slice (some ⟨gx, ox, none⟩) s.sigs.length n2) ∧ w'.cell? ⟨gx, ox + i * 6 + 1, none⟩ = some (.slice (some ⟨gp, op, none⟩) ids.length cp) ∧ w'.cell? ⟨gp, op + k * 4, none⟩ = some (.int .i64 pk.k) ∧ w'.cell? ⟨gp, op + k * 4 + 1, none⟩ = some (.string pk.n) ∧ w'.cell? ⟨gp, op + k * 4 + 2, none⟩ = some (.slice pk.an pk.ln pk.cn) ∧ w'.cell? ⟨gp, op + k * 4 + 3, none⟩ = some (.slice pk.ak pk.lk pk.ck)) (go_keep) (first
                  | (go_at_call 22; (refine HCT.out.mono ?_); rintro e u4 ⟨c5, rfl, t5, b5⟩; have hb5 : Below wr.heap.size wr u4 := (Below.refl _ _).drew.trans b5; obtain ⟨z0, z1, z2, z3, z4, z5, z6⟩ := HCL2.out _ hb5; have HSM := Lib.hid (HCSA.out u4 _ c5 (HBU1.out.trans ((HBX.out.trans (hb5.mono hzx)).mono hzu1)) t5 (fun g hg => hg.2)))
                  | (go_at_call 21; (refine HSM.out.mono ?_); rintro e u5 ⟨rfl, b6⟩; have hb6 := hb5.trans (b6.mono hb5.size); obtain ⟨z0', z1', z2', z3', z4', z5', z6'⟩ := HCL2.out _ hb6))
                have HBU5 := Lib.hid hb6
                clear z0 z1 z2 z3 z4 z5 z6 z0' z1' z2' z3' z4' z5' z6' y0 y1 y2 y3 y4 y5 y6 HSM HCT HCSA b5 b6 hb5 hb6 t5
                have hk := HLK.out
                have hk1000 := HIL.out
                go_wp2
                go_roundw
                case rel => exact ⟨k + 1, by go_num, HLK.out, HBX.out.trans (HBU5.out.mono hzx)⟩
                case measure => have h0 := HLK.out; simp [intOf]; omega
              · obtain rfl : ids.length = k := by omega
                have v0 := HV0.out wr HBX.out
                obtain ⟨p5, -⟩ := HCELL.out wr HBX.out
                have hbf : Below W4.heap.size W4 wr := HB4R.out.trans ((HU1.out.trans (HBX.out.mono hy1)).mono (by omega))
                have hbw : Below w5.heap.size w5 wr := HBL.out.trans ((HU1.out.trans (HBX.out.mono hy1)).mono hwr)
                have HBF := Lib.hid hbf; have HBWW := Lib.hid hbw
                clear hbf hbw hwx
                by_cases he : nm = nl
                · have tq : (nm == nl) = true := by simp [he]
                  clear he
                  go_wp2
                  go_ret
                  exact ⟨rfl, HBW4.out.trans (HBF.out.mono hw4)⟩
                · have tq : (nm == nl) = false := by simp [he]
                  have HE := Lib.hid he
                  clear he
                  go_wp2
                  go_roundw
                  case rel => exact ⟨i + 1, by go_num, HLT.out, (fun j hj hji => (by
                    by_cases hji2 : j = i
                    · subst hji2; rw [HNN.out]; exact HE.out
                    · exact HNO.out j hj (by omega))), HBWW.out⟩
                  case measure => have h0 := HLT.out; simp [intOf]; omega
          · have hiz : ¬ (i : Int) < (s.sigs.length : Int) := by omega
            obtain rfl : i = s.sigs.length := by omega
            have HNO := hno
            have CS := tsig_out nl wr tb rb nb mb gb m ty nu T G vs HS.out.tab HS.out.sgs (by omega) (fun x hx => by
              obtain ⟨j, hj, rfl⟩ := List.mem_iff_getElem.1 hx
              rw [(HBK.out.sigs j hj (by omega)).name]
              exact HNO.out j (by omega) (by omega))
            have HCS := Lib.hid CS
            clear CS hno
            go_wp2_with (go_at_call 20; (refine HCS.out.mono ?_); rintro e u1 ⟨rfl, b1⟩; have HU1 := Lib.hid b1; clear b1)
            go_ret
            exact ⟨rfl, HBW4.out.trans ((HB4R.out.trans (HU1.out.mono (by omega))).mono hw4)⟩
      · have t0 : ((pe : Nat) == (0 : Int)) = false := by simp; omega
        have hne : (pe : Int) ≠ 0 := by omega
        go_wp2_with (go_at_call 9; (refine HCN2.out.mono ?_); rintro e w5 ⟨⟨-, k2⟩, x5⟩; obtain rfl := k2 hp0; have HX5 := Lib.hid x5; clear k2 x5)
        go_ret
        exact ⟨rfl, HBW4.out.trans (HX5.out.mono hw4)⟩
    · have hcn := HCN.out
      rw [if_pos hE0] at hcn
      have HCN2 := Lib.hid hcn
      have t0 : ((E : Nat) == (0 : Int)) = false := by simp; omega
      have hne : (E : Int) ≠ 0 := by omega
      clear hcn HCN
      go_wp2_with (go_at_call 9; (refine HCN2.out.mono ?_); rintro e w5 ⟨⟨-, k2⟩, x5⟩; obtain rfl := k2 hE0; have HX5 := Lib.hid x5; clear k2 x5)
      go_ret
      exact ⟨rfl, HBW4.out.trans (HX5.out.mono hw4)⟩
end Sp
end Go.Proofs.Yteooafgdmpbjeab
namespace Go.Proofs.Yteooafgdmpbjeab
open Go.RowKit
namespace Sp
open Sc
set_option maxRecDepth 100000
theorem open_raws {H : Type} {enc : TypeId × Value → H} {w : World} {fuel : Nat} {c3 : Value} {x : DataW H × List MemPlace} (h : DataW.trod enc Try.prog w 0 (fun _ => true) true fuel 43 [c3] = some x) :
    ∃ (a : Option Addr) (c : Nat) (ks : List Rw) (us : List R4), c3 = .slice a ks.length c ∧ ks.length ≤ maxLen ∧ RwsV w ks a us := by
  have hcR : Try.prog.cellsOf 45 = 4 := by kernel_rfl
  rcases DataW.trod_slice Try.underlying43 h with ⟨hcs, _⟩ | ⟨a, l, c, elems, rest, m', hm', hcs, _, _, hl, hmx, hel, hx3, _⟩
  · cases hcs
    exact ⟨none, 0, [], [], rfl, by decide, rfl, .inl rfl, fun i h => by cases h⟩
  · cases hcs
    have each : ∀ i, i < l → ∃ r : Rw, ∃ c : R4, RwV w r c ∧ ∀ j v, c.cells[j]? = some v → w.cell? ((a.add (i * 4)).add j) = some v := fun i hi => by
      have h1 := hx3 i hi
      rw [hcR, List.getElem?_eq_getElem (by omega)] at h1
      obtain ⟨cl, h2, h3⟩ := Option.bind_eq_some_iff.1 h1
      obtain ⟨r, cc, rfl, hr⟩ := open_raw m' cl _ h3
      obtain ⟨_, _, h4⟩ := World.cells?_some h2
      refine ⟨r, cc, hr, fun j v hv => ?_⟩
      have hj : j < 4 := (List.getElem?_eq_some_iff.1 hv).1
      rw [h4 j hj]; exact hv
    obtain ⟨f, hf⟩ : ∃ f : Nat → Rw × R4, ∀ i, i < l → RwV w (f i).1 (f i).2 ∧ ∀ j v, (f i).2.cells[j]? = some v → w.cell? ((a.add (i * 4)).add j) = some v :=
      ⟨fun i => if h : i < l then ((each i h).choose, (each i h).choose_spec.choose) else default, fun i hi => by simp only [dif_pos hi]; exact (each i hi).choose_spec.choose_spec⟩
    refine ⟨some a, c, (List.range l).map fun i => (f i).1, (List.range l).map fun i => (f i).2, by simp, by simp; omega, by simp, rowV_of (by decide) (fun x hx => by obtain ⟨y, _, rfl⟩ := List.mem_map.1 hx; rfl) (fun i hi j v hv => ?_), fun i h1 h2 => ?_⟩
    · simp only [List.length_map, List.length_range] at hi
      simp only [List.getElem_map, List.getElem_range] at hv
      exact (hf i hi).2 j v hv
    · simp only [List.length_map, List.length_range] at h1
      simp only [List.getElem_map, List.getElem_range]
      exact (hf i h1).1
theorem open_rawV {H : Type} {enc : TypeId × Value → H} {w : World} {base : Nat} {v : Value} {d : DataW H} {ps : List MemPlace} (hv : Value.okWide Try.prog w .any base 45 v) (h : DataW.Trod enc Try.prog w 0 (fun _ => true) true 45 v d ps) :
    ∃ r c, v = .agg #[.int .i64 c.k, .int .i64 c.n, .slice c.an c.ln c.cn, .slice c.ak c.lk c.ck] ∧ RwV w r c := by
  obtain ⟨cs, rfl, -⟩ := Go.WideShapes.okWide_struct Try.underlying45 hv
  obtain ⟨fuel, hf⟩ := h
  obtain ⟨r, c, hc, hr⟩ := open_raw fuel _ _ hf
  refine ⟨r, c, ?_, hr⟩
  have hc : cs.toList = R4.cells c := hc
  rw [← Array.toArray_toList (xs := cs), hc]
  rfl
theorem open_rawsV {H : Type} {enc : TypeId × Value → H} {w : World} {base : Nat} {v : Value} {d : DataW H} {ps : List MemPlace} (hv : Value.okWide Try.prog w .any base 43 v) (h : DataW.Trod enc Try.prog w 0 (fun _ => true) true 43 v d ps) :
    ∃ (a : Option Addr) (c : Nat) (ks : List Rw) (us : List R4), v = .slice a ks.length c ∧ ks.length ≤ maxLen ∧ RwsV w ks a us := by
  obtain ⟨a, l, c, rfl⟩ := Go.WideShapes.okWide_slice Try.underlying43 hv
  obtain ⟨fuel, hf⟩ := h
  exact open_raws hf
end Sp
end Go.Proofs.Yteooafgdmpbjeab
namespace Go.Proofs.Yteooafgdmpbjeab
namespace Sp
theorem own : ownKnob Try.prog.godebug = none := by kernel_rfl
theorem laidOut : laidOutB Try.prog = true := by kernel_rfl
end Sp
end Go.Proofs.Yteooafgdmpbjeab
