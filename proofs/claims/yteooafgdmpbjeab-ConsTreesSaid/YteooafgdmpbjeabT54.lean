/- ConsTrees: its walk. Written by gen_ktrees.py. -/
import Derived.Test.YteooafgdmpbjeabT49
import Derived.Test.YteooafgdmpbjeabT51
import Derived.Test.YteooafgdmpbjeabT52
import Derived.Test.YteooafgdmpbjeabT29
import Derived.Test.YteooafgdmpbjeabT53
import Derived.Test.YteooafgdmpbjeabT19
import Derived.WideShapes
import Derived.ChangeShapes
import Derived.Test.YteooafgdmpbjeabT15
import Derived.ProofKit
import Derived.OpenShut
import Derived.KernelRfl
namespace Go.Proofs.Yteooafgdmpbjeab
open Go.RowKit
namespace Sp
open Sc
set_option maxRecDepth 100000
set_option maxHeartbeats 16000000 in
theorem ConsTrees_any (main : Rw) (types sigs : List Rw) (cm : R4) (at1 at2 : Option Addr) (ut ug : List R4) (c1 c2 : Nat) (w : World) (hM : RwV w main cm) (hT : RwsV w types at1 ut) (hG : RwsV w sigs at2 ug) (hl : types.length ≤ maxLen) (hl2 : sigs.length ≤ maxLen) :
    Calls Try.prog 7 #[.agg #[.int .i64 cm.k, .int .i64 cm.n, .slice cm.an cm.ln cm.cn, .slice cm.ak cm.lk cm.ck], .slice at1 types.length c1, .slice at2 sigs.length c2] w fun e w' => e = .returned (.bool true) ∧ Below w.heap.size w w' := by
  have HM := Lib.hid hM; have HT := Lib.hid hT; have HG := Lib.hid hG
  clear hM hT hG
  obtain ⟨W0, hW0⟩ : ∃ W0, W0 = w.alloc (.cells #[.int .i64 cm.k, .int .i64 cm.n, .slice cm.an cm.ln cm.cn, .slice cm.ak cm.lk cm.ck] 45) := ⟨_, rfl⟩
  have hb0 : Below w.heap.size w W0 := by rw [hW0]; exact (Below.refl _ _).alloc (Nat.le_refl _) _
  have hz0 : W0.heap.size = w.heap.size + 1 := by rw [hW0]; simp
  have hs0 : W0.heap[w.heap.size]? = some (.cells #[.int .i64 cm.k, .int .i64 cm.n, .slice cm.an cm.ln cm.cn, .slice cm.ak cm.lk cm.ck] 45 (0, 0)) := by rw [hW0]; exact heap_alloc_new w _
  have HW0 := Lib.hid hW0; have HB0 := Lib.hid hb0; have HS0 := Lib.hid hs0
  clear hW0 hb0 hs0
  go_enter Try.func7, Try.ntmps7
  go_upto_region 1 with fail
  rw [← HW0.out]
  clear HW0
  go_upto_region 3 with (go_at_call 17; (with_reducible refine (known5_any _).mono ?_); rintro e w1 ⟨rfl, x1⟩; have hz1 := x1.size; obtain ⟨⟨p0, p1, p2, p3⟩, _⟩ := four_blk ((x1.block w.heap.size (by omega)).trans HS0.out); have HS1 := Lib.hid ((x1.block w.heap.size (by omega)).trans HS0.out); have HB1 := Lib.hid (HB0.out.trans (x1.mono (by omega))); clear x1)
  have CF : Calls Try.prog 18 #[.agg #[.int .i64 cm.k, .int .i64 cm.n, .slice cm.an cm.ln cm.cn, .slice cm.ak cm.lk cm.ck], .slice at1 types.length c1, .slice at2 sigs.length c2] w1 _ := FewAll_any main types sigs cm at1 at2 ut ug c1 c2 w1 (HM.out.later HB1.out) (HT.out.up HB1.out) (HG.out.up HB1.out) hl hl2
  obtain ⟨fa, hfa⟩ : ∃ fa, fewAllR main types sigs = fa := ⟨_, rfl⟩
  rw [hfa] at CF
  have HCF := Lib.hid CF
  clear CF hfa
  cases fa
  · go_wp2_with (go_at_call 18; (with_reducible refine HCF.out.mono ?_); rintro e w2 ⟨rfl, x2⟩; have HX2 := Lib.hid x2; clear x2)
    go_ret
    exact ⟨rfl, HB1.out.trans (HX2.out.mono (by omega))⟩
  · go_upto_region 5 with (go_at_call 18; (with_reducible refine HCF.out.mono ?_); rintro e w2 ⟨rfl, x2⟩; have hz2 := x2.size; obtain ⟨⟨m0, m1, m2, m3⟩, _⟩ := four_blk ((x2.block w.heap.size (by omega)).trans HS1.out); have HB2 := Lib.hid (HB1.out.trans (x2.mono (by omega))); clear x2)
    obtain ⟨s, hs⟩ : ∃ s, schR main types sigs = s := ⟨_, rfl⟩
    have hft : s.types.length ≤ 4 := by rw [← hs, schR_types]; omega
    have hfs : s.sigs.length ≤ 4 := by rw [← hs, schR_sigs]; omega
    have hfit : SzFit s := by rw [← hs]; exact schR_fit _ _ _
    have hsh : ShortS s := by rw [← hs]; exact schR_short _ _ _
    have CG := Good_any main types sigs cm at1 at2 ut ug c1 c2 w2 (HM.out.later HB2.out) (HT.out.up HB2.out) (HG.out.up HB2.out) hl hl2 (by rw [hs]; omega) (by rw [hs]; omega) (by rw [hs]; exact hfit)
    rw [hs] at CG
    obtain ⟨E, hE⟩ : ∃ E, refC s = E := ⟨_, rfl⟩
    have hNK : newK s = if E ≠ 0 then (E, default) else schemaK s := by unfold newK; rw [hE]
    rw [hE] at CG
    have HCG := Lib.hid CG; have HE := Lib.hid hE; have HNK := Lib.hid hNK; have HFIT := Lib.hid hfit; have HSH := Lib.hid hsh
    clear CG hs hE hNK hfit hsh p0 p1 p2 p3
    go_upto_region 6 with (go_at_call 19; (refine HCG.out.mono ?_); rintro e w3 ⟨c, a1, n1, us, a2, n2, gs, rfl, hv3, x3⟩; have hz3 := x3.size; have HV3 := Lib.hid hv3; have HB3 := Lib.hid (HB2.out.trans (x3.mono (by have := HB2.out.size; omega))); clear x3 hv3)
    obtain ⟨sb, hsb⟩ : ∃ sb, sb = w3.heap.size := ⟨_, rfl⟩
    obtain ⟨W4, hW4⟩ : ∃ W4, W4 = w3.alloc (.cells #[.int .i64 c.k, .string c.n, .slice c.an c.ln c.cn, .slice c.ak c.lk c.ck, .slice a1 s.types.length n1, .slice a2 s.sigs.length n2] 35) := ⟨_, rfl⟩
    have hz4 : W4.heap.size = w3.heap.size + 1 := by rw [hW4]; simp
    have hb4 : Below w3.heap.size w3 W4 := by rw [hW4]; exact (Below.refl _ _).alloc (Nat.le_refl _) _
    have hs4 : W4.heap[sb]? = some (.cells #[.int .i64 c.k, .string c.n, .slice c.an c.ln c.cn, .slice c.ak c.lk c.ck, .slice a1 s.types.length n1, .slice a2 s.sigs.length n2] 35 (0, 0)) := by rw [hW4, hsb]; exact heap_alloc_new w3 _
    have hv4 : SzV W4 (fun g => g < w3.heap.size) s c a1 us a2 gs := HV3.out.keepS (fun g hg => hb4.block g hg.2) (fun g hg => hg.2)
    have CN := New_any s c a1 a2 us gs n1 n2 W4 (fun g => g < w3.heap.size) (fun g hg => by omega) hv4 HFIT.out HSH.out (by omega) (by omega)
    rw [HNK.out] at CN
    have hbw4 := HB3.out.trans (hb4.mono (by have := HB3.out.size; omega))
    rw [← hW4, ← hsb]
    have hsb4 : sb < W4.heap.size := by omega
    have hw4 := hbw4.size
    have HCN := Lib.hid CN; have HS4 := Lib.hid hs4; have HV4 := Lib.hid hv4; have HBW4 := Lib.hid hbw4
    have hsb5 : w.heap.size < sb := by have := HB3.out.size; omega
    clear CN hs4 hv4 hbw4 hb4 hW4 HNK hsb
    obtain ⟨⟨p0, p1, p2, p3, p4, p5⟩, _⟩ := six_blkF HS4.out
    by_cases hE0 : E = 0
    · subst hE0
      have hcn := HCN.out
      rw [if_neg (by decide)] at hcn
      obtain ⟨⟨pe, T, N, G, m⟩, hpk⟩ : ∃ pk, schemaK s = pk := ⟨_, rfl⟩
      rw [hpk] at hcn
      have HCN2 := Lib.hid hcn; have HPK := Lib.hid hpk
      clear hcn hpk HCN
      by_cases hp0 : pe = 0
      · subst hp0
        have BK := built_of HE.out (by rw [HPK.out])
        rw [HPK.out] at BK
        have GK := good_of HE.out
        have HOP : Hid (∀ i, i < T.length → openK T N 13 i < T.length ∧ (T.getD (openK T N 13 i) default).kind ≠ 9) := fun i hi => ⟨(open13 GK BK.good BK.names hi).1, (open13 GK BK.good BK.names hi).2.1⟩
        have HL : Hid (∀ k ∈ T, k.kind = 9 → lookN N k.name < T.length) := fun k hk h9 => by
          obtain ⟨x, hx, hxn⟩ := hasZ_iff.1 (BK.good.named k hk h9)
          rw [← hxn]
          exact (BK.names.look x hx).1
        have h120 : T.length ≤ 120 := BK.good.len
        have HBK := Lib.hid BK; have HGK := Lib.hid GK
        clear BK GK
        go_upto_region 9 with (go_at_call 9; (refine HCN2.out.mono ?_); rintro e w5 ⟨⟨k1, -⟩, x5⟩; obtain ⟨tb, rb, nb, mb, gb, ty, nu, vs, rfl, hst⟩ := k1 rfl; have hz5 := x5.size; have HST := Lib.hid hst; have HX5 := Lib.hid x5; clear k1 hst x5)
        clear p0 p1 p2 p3 p4 p5 HCN2 HOP HL
        have hfun : hasZ N = hasZ s.types := by
          have := HBK.out.has
          exact funext this
        have hkid := HBK.out.good.toTabW.kids
        have HPU : Hid (∀ i, i < T.length → addK (hasZ N) T (typT T i) = (i, 0, T)) := fun i hi => by rw [hfun]; exact trees_pure HBK.out.good hi
        have HKID := Lib.hid hkid
        clear hfun hkid
        go_upto_region 10 with (go_at_call 23; (refine (len_any _ _ _ _ _ _ _ _ _ _ HST.out.tab).mono ?_); rintro e u1 ⟨rfl, b1⟩; have hy1 := b1.size; have HS1 := Lib.hid (HST.out.below b1); have HU1 := Lib.hid (HX5.out.trans (b1.mono hz5)); clear b1)
        go_wp2_with fail
        go_loopw [12] (fun iv wr => ∃ i rb2 nb2 ty2 nu2, iv = .int .i64 (i : Nat) ∧ i ≤ T.length ∧ StV W4.heap.size wr tb rb2 nb2 mb gb m ty2 nu2 T N G vs ∧ Below W4.heap.size W4 wr) (fun iv _ => T.length - (intOf iv).toNat)
        case atStart => exact ⟨0, rb, nb, ty, nu, rfl, Nat.zero_le _, HS1.out, HU1.out⟩
        case round =>
          obtain ⟨i, rb2, nb2, ty2, nu2, rfl, hle, hst, hbel⟩ := hrel
          have hwr := hbel.size
          have HS := Lib.hid hst; have HBL := Lib.hid hbel
          clear hst hbel
          by_cases hlt : i < T.length
          · have hiz : (i : Int) < (T.length : Int) := by omega
            have hft := typT_fit HKID.out HS.out.tab.fit (i + 1) i (Nat.lt_succ_self _) hlt
            have HFT := Lib.hid hft; have HLT := Lib.hid hlt
            have HCT := Lib.hid (ttype_in (i + 1) i (Nat.lt_succ_self _) wr tb rb2 nb2 mb gb m ty2 nu2 T HS.out.tab HKID.out hlt)
            clear hft
            go_upto_region 14 with fail
            go_at_call 22
            refine HCT.out.mono ?_
            rintro e u2 ⟨c2', rfl, v2, b2⟩; have hy2 := b2.size; have HS2 := Lib.hid (HS.out.below b2); have HU2 := Lib.hid (HBL.out.trans (b2.mono hwr)); have HV2 := Lib.hid v2; have CA := HS2.out.addsK (by have := HU2.out.size; omega) HFT.out.1 HFT.out.2 HV2.out (fun g hg => ⟨hg.2, fun ho => by have := HS.out.tab.lt ho; have := hg.1; omega⟩) (HPU.out i hlt); have HCA := Lib.hid CA; clear b2 v2 CA
            go_upto_region 14 with (go_at_call 11; (refine HCA.out.mono ?_); rintro e u3 ⟨rb3, nb3, ty3, nu3, rfl, s3, x3⟩; have hy3 := x3.size; have HS3 := Lib.hid s3; have HU3 := Lib.hid (HU2.out.trans x3); clear s3 x3)
            have hT3 := HU3.out.size
            go_wp2_with (go_at_call 23; (refine (len_any _ _ _ _ _ _ _ _ _ _ HS3.out.tab).mono ?_); rintro e u4 ⟨rfl, b4⟩; have hy4 := b4.size; have HS4 := Lib.hid (HS3.out.below b4); have HU4 := Lib.hid (HU3.out.trans (b4.mono (by omega))); clear b4)
            go_roundw
            case rel => exact ⟨i + 1, _, _, _, _, by go_num, HLT.out, HS4.out, HU4.out⟩
            case measure => have h0 := HLT.out; simp [intOf]; omega
          · have hiz : ¬ (i : Int) < (T.length : Int) := by omega
            go_wp2
            go_ret
            exact ⟨rfl, HBW4.out.trans (HBL.out.mono hw4)⟩
      · have t0 : ((pe : Nat) == (0 : Int)) = false := by simp; omega
        have hne : (pe : Int) ≠ 0 := by omega
        go_wp2_with (go_at_call 9; (refine HCN2.out.mono ?_); rintro e w5 ⟨⟨-, k2⟩, x5⟩; obtain rfl := k2 hp0; have HX5 := Lib.hid x5; clear k2 x5)
        go_ret
        exact ⟨rfl, HBW4.out.trans (HX5.out.mono hw4)⟩
    · have hcn := HCN.out
      rw [if_pos hE0] at hcn
      have HCN2 := Lib.hid hcn
      have t0 : ((E : Nat) == (0 : Int)) = false := by simp; omega
      have hne : (E : Int) ≠ 0 := by omega
      clear hcn HCN
      go_wp2_with (go_at_call 9; (refine HCN2.out.mono ?_); rintro e w5 ⟨⟨-, k2⟩, x5⟩; obtain rfl := k2 hE0; have HX5 := Lib.hid x5; clear k2 x5)
      go_ret
      exact ⟨rfl, HBW4.out.trans (HX5.out.mono hw4)⟩
end Sp
end Go.Proofs.Yteooafgdmpbjeab
namespace Go.Proofs.Yteooafgdmpbjeab
open Go.RowKit
namespace Sp
open Sc
set_option maxRecDepth 100000
theorem open_raws {H : Type} {enc : TypeId × Value → H} {w : World} {fuel : Nat} {c3 : Value} {x : DataW H × List MemPlace} (h : DataW.trod enc Try.prog w 0 (fun _ => true) true fuel 43 [c3] = some x) :
    ∃ (a : Option Addr) (c : Nat) (ks : List Rw) (us : List R4), c3 = .slice a ks.length c ∧ ks.length ≤ maxLen ∧ RwsV w ks a us := by
  have hcR : Try.prog.cellsOf 45 = 4 := by kernel_rfl
  rcases DataW.trod_slice Try.underlying43 h with ⟨hcs, _⟩ | ⟨a, l, c, elems, rest, m', hm', hcs, _, _, hl, hmx, hel, hx3, _⟩
  · cases hcs
    exact ⟨none, 0, [], [], rfl, by decide, rfl, .inl rfl, fun i h => by cases h⟩
  · cases hcs
    have each : ∀ i, i < l → ∃ r : Rw, ∃ c : R4, RwV w r c ∧ ∀ j v, c.cells[j]? = some v → w.cell? ((a.add (i * 4)).add j) = some v := fun i hi => by
      have h1 := hx3 i hi
      rw [hcR, List.getElem?_eq_getElem (by omega)] at h1
      obtain ⟨cl, h2, h3⟩ := Option.bind_eq_some_iff.1 h1
      obtain ⟨r, cc, rfl, hr⟩ := open_raw m' cl _ h3
      obtain ⟨_, _, h4⟩ := World.cells?_some h2
      refine ⟨r, cc, hr, fun j v hv => ?_⟩
      have hj : j < 4 := (List.getElem?_eq_some_iff.1 hv).1
      rw [h4 j hj]; exact hv
    obtain ⟨f, hf⟩ : ∃ f : Nat → Rw × R4, ∀ i, i < l → RwV w (f i).1 (f i).2 ∧ ∀ j v, (f i).2.cells[j]? = some v → w.cell? ((a.add (i * 4)).add j) = some v :=
      ⟨fun i => if h : i < l then ((each i h).choose, (each i h).choose_spec.choose) else default, fun i hi => by simp only [dif_pos hi]; exact (each i hi).choose_spec.choose_spec⟩
    refine ⟨some a, c, (List.range l).map fun i => (f i).1, (List.range l).map fun i => (f i).2, by simp, by simp; omega, by simp, rowV_of (by decide) (fun x hx => by obtain ⟨y, _, rfl⟩ := List.mem_map.1 hx; rfl) (fun i hi j v hv => ?_), fun i h1 h2 => ?_⟩
    · simp only [List.length_map, List.length_range] at hi
      simp only [List.getElem_map, List.getElem_range] at hv
      exact (hf i hi).2 j v hv
    · simp only [List.length_map, List.length_range] at h1
      simp only [List.getElem_map, List.getElem_range]
      exact (hf i h1).1
theorem open_rawV {H : Type} {enc : TypeId × Value → H} {w : World} {base : Nat} {v : Value} {d : DataW H} {ps : List MemPlace} (hv : Value.okWide Try.prog w .any base 45 v) (h : DataW.Trod enc Try.prog w 0 (fun _ => true) true 45 v d ps) :
    ∃ r c, v = .agg #[.int .i64 c.k, .int .i64 c.n, .slice c.an c.ln c.cn, .slice c.ak c.lk c.ck] ∧ RwV w r c := by
  obtain ⟨cs, rfl, -⟩ := Go.WideShapes.okWide_struct Try.underlying45 hv
  obtain ⟨fuel, hf⟩ := h
  obtain ⟨r, c, hc, hr⟩ := open_raw fuel _ _ hf
  refine ⟨r, c, ?_, hr⟩
  have hc : cs.toList = R4.cells c := hc
  rw [← Array.toArray_toList (xs := cs), hc]
  rfl
theorem open_rawsV {H : Type} {enc : TypeId × Value → H} {w : World} {base : Nat} {v : Value} {d : DataW H} {ps : List MemPlace} (hv : Value.okWide Try.prog w .any base 43 v) (h : DataW.Trod enc Try.prog w 0 (fun _ => true) true 43 v d ps) :
    ∃ (a : Option Addr) (c : Nat) (ks : List Rw) (us : List R4), v = .slice a ks.length c ∧ ks.length ≤ maxLen ∧ RwsV w ks a us := by
  obtain ⟨a, l, c, rfl⟩ := Go.WideShapes.okWide_slice Try.underlying43 hv
  obtain ⟨fuel, hf⟩ := h
  exact open_raws hf
end Sp
end Go.Proofs.Yteooafgdmpbjeab
namespace Go.Proofs.Yteooafgdmpbjeab
namespace Sp
theorem own : ownKnob Try.prog.godebug = none := by kernel_rfl
theorem laidOut : laidOutB Try.prog = true := by kernel_rfl
end Sp
end Go.Proofs.Yteooafgdmpbjeab
