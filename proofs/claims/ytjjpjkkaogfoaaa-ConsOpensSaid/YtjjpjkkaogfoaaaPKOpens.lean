/- ConsOpens: its walk. -/
import Derived.Test.YtjjpjkkaogfoaaaP6
import Derived.Test.YtjjpjkkaogfoaaaWFewAll
namespace Go.Proofs.Ytjjpjkkaogfoaaa
open Go.RowKit
namespace Sp
open Sc
set_option maxRecDepth 100000

theorem openK_more (T : List Kz) (N : List NN) : ∀ (f i : Nat), (T.getD (openK T N f i) default).kind ≠ 9 → openK T N (f + 1) i = openK T N f i
  | 0, i, h => by rw [openK, openK, if_neg]; exact h
  | f + 1, i, h => by
    rw [openK]
    rw [openK] at h
    by_cases h9 : (T.getD i default).kind = 9
    · rw [if_pos h9] at h ⊢
      rw [openK_more T N f _ h, openK, if_pos h9]
    · rw [if_neg h9, openK, if_neg h9]
theorem openK_named {T : List Kz} {N : List NN} {a : Nat} {nm : List UInt8} (ha : (T.getD a default).kind = 9) (hn : (T.getD a default).name = nm) (h : (T.getD (openK T N 13 a) default).kind ≠ 9) : openK T N 13 a = openK T N 13 (lookN N nm) := by
  have e := openK_step T N 12 a ha
  rw [hn] at e
  rw [e] at h ⊢
  exact (openK_more T N 12 _ h).symm
theorem opens_pure {s : Sz} {N : List NN} {T : List Kz} (GK : GoodZ s) (hA : AddsZ s) (hT : TabG (hasZ s.types) 400 T) (hN : NamW T N s.types) {x : NT} (hx : x ∈ s.types) :
    ((addK (hasZ s.types) T (.mk 9 x.1 [] [])).2.1 = 0 ∨ (addK (hasZ s.types) T (.mk 9 x.1 [] [])).2.1 = 20) ∧ TabG (hasZ s.types) 400 (addK (hasZ s.types) T (.mk 9 x.1 [] [])).2.2 ∧ T <+: (addK (hasZ s.types) T (.mk 9 x.1 [] [])).2.2 ∧
    ((addK (hasZ s.types) T (.mk 9 x.1 [] [])).2.1 = 0 → addK (hasZ s.types) (addK (hasZ s.types) T (.mk 9 x.1 [] [])).2.2 x.2 = (lookN N x.1, 0, (addK (hasZ s.types) T (.mk 9 x.1 [] [])).2.2) ∧ (addK (hasZ s.types) T (.mk 9 x.1 [] [])).1 < (addK (hasZ s.types) T (.mk 9 x.1 [] [])).2.2.length ∧
      lookN N x.1 < (addK (hasZ s.types) T (.mk 9 x.1 [] [])).2.2.length ∧ openK (addK (hasZ s.types) T (.mk 9 x.1 [] [])).2.2 N 13 (addK (hasZ s.types) T (.mk 9 x.1 [] [])).1 = openK (addK (hasZ s.types) T (.mk 9 x.1 [] [])).2.2 N 13 (lookN N x.1)) := by
  have hh : hasZ s.types x.1 = true := hasZ_iff.2 ⟨x, hx, rfl⟩
  have hok : okK (hasZ s.types) (.mk 9 x.1 [] []) = true ∧ sizeZ (.mk 9 x.1 [] []) ≤ 400 := ⟨by simp [okK, okKs, ownC, formB, kidsN, hh], by simp [sizeZ, sizeZs]⟩
  obtain ⟨e1, e2, e3, e4⟩ := addK_g hT hok
  refine ⟨by rw [e1]; exact treeK_e _ _, e2, e3, fun h0 => ?_⟩
  obtain ⟨f1, f2⟩ := e4 h0
  have hN2 := hN.grow hT e3
  obtain ⟨l1, l2⟩ := hN2.look x hx
  generalize addK (hasZ s.types) T (.mk 9 x.1 [] []) = a at *
  refine ⟨?_, f1, l1, openK_named ?_ ?_ (open13 GK e2 hN2 f1).2.1⟩
  · rw [addK_ok (hA.types x hx).1 (hA.types x hx).2]
    have := typT_again e2.toTabW _ _ (Nat.lt_succ_self _) l1
    rw [l2] at this
    exact this
  · rw [typT_at e2.kids f1] at f2
    rw [List.getD, List.getElem?_eq_getElem f1]
    injection f2
  · rw [typT_at e2.kids f1] at f2
    rw [List.getD, List.getElem?_eq_getElem f1]
    injection f2
/-- What is told of each number. -/
structure Op1 (W6 : World) (n : Nat) (iv : Value) (wr : World) (i : Nat) : Prop where
  slot : iv = .int .i64 i
  le : i ≤ n
  below : Below W6.heap.size W6 wr
structure Op2 (W4 : World) (tb mb gb m : Nat) (s : Sz) (N : List NN) (G : List GN) (vs : List Value) (iv : Value) (wr : World) (j : Nat) (T : List Kz) (rb nb : Nat) (ty nu : Value) : Prop where
  slot : iv = .int .i64 j
  le : j ≤ s.types.length
  st : StV W4.heap.size wr tb rb nb mb gb m ty nu T N G vs
  good : TabG (hasZ s.types) 400 T
  names : NamW T N s.types
  below : Below W4.heap.size W4 wr
theorem look_lt {s : Sz} {N : List NN} {T : List Kz} (hg : TabG (hasZ s.types) 400 T) (hn : NamW T N s.types) : ∀ k ∈ T, k.kind = 9 → lookN N k.name < T.length := fun k hk h9 => by
  obtain ⟨x, hx, hxn⟩ := hasZ_iff.1 (hg.named k hk h9)
  rw [← hxn]
  exact (hn.look x hx).1
set_option maxHeartbeats 16000000 in
theorem ConsOpens_any (main : Rw) (types : List Rw) (cm : R4) (at1 : Option Addr) (ut : List R4) (c1 : Nat) (w : World) (hM : RwV w main cm) (hT : RwsV w types at1 ut) (hl : types.length ≤ maxLen) :
    Calls Try.prog 6 #[.agg #[.int .i64 cm.k, .int .i64 cm.n, .slice cm.an cm.ln cm.cn, .slice cm.ak cm.lk cm.ck], .slice at1 types.length c1] w fun e w' => e = .returned (.bool true) ∧ Below w.heap.size w w' := by
  have HM := Lib.hid hM; have HT := Lib.hid hT
  clear hM hT
  obtain ⟨W0, hW0⟩ : ∃ W0, W0 = w.alloc (.cells #[.int .i64 cm.k, .int .i64 cm.n, .slice cm.an cm.ln cm.cn, .slice cm.ak cm.lk cm.ck] 33) := ⟨_, rfl⟩
  have hb0 : Below w.heap.size w W0 := by rw [hW0]; exact (Below.refl _ _).alloc (Nat.le_refl _) _
  have hz0 : W0.heap.size = w.heap.size + 1 := by rw [hW0]; simp
  have hs0 : W0.heap[w.heap.size]? = some (.cells #[.int .i64 cm.k, .int .i64 cm.n, .slice cm.an cm.ln cm.cn, .slice cm.ak cm.lk cm.ck] 33 (0, 0)) := by rw [hW0]; exact heap_alloc_new w _
  have HW0 := Lib.hid hW0; have HB0 := Lib.hid hb0; have HS0 := Lib.hid hs0
  clear hW0 hb0 hs0
  go_enter Try.func6, Try.ntmps6
  go_upto_region 1 with fail
  rw [← HW0.out]
  clear HW0
  go_upto_region 3 with (go_at_call 23; (with_reducible refine (known5_any _).mono ?_); rintro e w1 ⟨rfl, x1⟩; have hz1 := x1.size; obtain ⟨⟨p0, p1, p2, p3⟩, _⟩ := four_blk ((x1.block w.heap.size (by omega)).trans HS0.out); have HS1 := Lib.hid ((x1.block w.heap.size (by omega)).trans HS0.out); have HB1 := Lib.hid (HB0.out.trans (x1.mono (by omega))); clear x1)
  have CF : Calls Try.prog 12 #[.agg #[.int .i64 cm.k, .int .i64 cm.n, .slice cm.an cm.ln cm.cn, .slice cm.ak cm.lk cm.ck], .slice at1 types.length c1, .slice none 0 0] w1 _ := FewAll_any main types [] cm at1 none ut [] c1 0 w1 (HM.out.later HB1.out) (HT.out.up HB1.out) ⟨rfl, .inl rfl, fun i h => by cases h⟩ hl (by simp)
  obtain ⟨fa, hfa⟩ : ∃ fa, fewAllR main types [] = fa := ⟨_, rfl⟩
  rw [hfa] at CF
  have HCF := Lib.hid CF
  clear CF hfa
  cases fa
  · go_wp2_with (go_at_call 12; (with_reducible refine HCF.out.mono ?_); rintro e w2 ⟨rfl, x2⟩; have HX2 := Lib.hid x2; clear x2)
    go_ret
    exact ⟨rfl, HB1.out.trans (HX2.out.mono (by omega))⟩
  · go_upto_region 5 with (go_at_call 12; (with_reducible refine HCF.out.mono ?_); rintro e w2 ⟨rfl, x2⟩; have hz2 := x2.size; obtain ⟨⟨m0, m1, m2, m3⟩, _⟩ := four_blk ((x2.block w.heap.size (by omega)).trans HS1.out); have HB2 := Lib.hid (HB1.out.trans (x2.mono (by omega))); clear x2)
    obtain ⟨s, hs⟩ : ∃ s, schR main types [] = s := ⟨_, rfl⟩
    have hft : s.types.length ≤ 4 := by rw [← hs, schR_types]; omega
    have hfs : s.sigs.length ≤ 4 := by rw [← hs, schR_sigs]; omega
    have hfit : SzFit s := by rw [← hs]; exact schR_fit _ _ _
    have hsh : ShortS s := by rw [← hs]; exact schR_short _ _ _
    have CG := Good_any main types [] cm at1 none ut [] c1 0 w2 (HM.out.later HB2.out) (HT.out.up HB2.out) ⟨rfl, .inl rfl, fun i h => by cases h⟩ hl (by simp) (by rw [hs]; omega) (by rw [hs]; omega) (by rw [hs]; exact hfit)
    rw [hs] at CG
    obtain ⟨E, hE⟩ : ∃ E, refC s = E := ⟨_, rfl⟩
    have hNK : newK s = if E ≠ 0 then (E, default) else schemaK s := by unfold newK; rw [hE]
    rw [hE] at CG
    have HCG := Lib.hid CG; have HE := Lib.hid hE; have HNK := Lib.hid hNK; have HFIT := Lib.hid hfit; have HSH := Lib.hid hsh
    clear CG hs hE hNK hfit hsh p0 p1 p2 p3
    go_upto_region 6 with (go_at_call 24; (refine HCG.out.mono ?_); rintro e w3 ⟨c, a1, n1, us, a2, n2, gs, rfl, hv3, x3⟩; have hz3 := x3.size; have HV3 := Lib.hid hv3; have HB3 := Lib.hid (HB2.out.trans (x3.mono (by have := HB2.out.size; omega))); clear x3 hv3)
    obtain ⟨sb, hsb⟩ : ∃ sb, sb = w3.heap.size := ⟨_, rfl⟩
    obtain ⟨W4, hW4⟩ : ∃ W4, W4 = w3.alloc (.cells #[.int .i64 c.k, .string c.n, .slice c.an c.ln c.cn, .slice c.ak c.lk c.ck, .slice a1 s.types.length n1, .slice a2 s.sigs.length n2] 29) := ⟨_, rfl⟩
    have hz4 : W4.heap.size = w3.heap.size + 1 := by rw [hW4]; simp
    have hb4 : Below w3.heap.size w3 W4 := by rw [hW4]; exact (Below.refl _ _).alloc (Nat.le_refl _) _
    have hs4 : W4.heap[sb]? = some (.cells #[.int .i64 c.k, .string c.n, .slice c.an c.ln c.cn, .slice c.ak c.lk c.ck, .slice a1 s.types.length n1, .slice a2 s.sigs.length n2] 29 (0, 0)) := by rw [hW4, hsb]; exact heap_alloc_new w3 _
    have hv4 : SzV W4 (fun g => g < w3.heap.size) s c a1 us a2 gs := HV3.out.keepS (fun g hg => hb4.block g hg.2) (fun g hg => hg.2)
    have CN := New_any s c a1 a2 us gs n1 n2 W4 (fun g => g < w3.heap.size) (fun g hg => by omega) hv4 HFIT.out HSH.out (by omega) (by omega)
    rw [HNK.out] at CN
    have hbw4 := HB3.out.trans (hb4.mono (by have := HB3.out.size; omega))
    rw [← hW4, ← hsb]
    have hsb4 : sb < W4.heap.size := by omega
    have hw4 := hbw4.size
    have HCN := Lib.hid CN; have HS4 := Lib.hid hs4; have HV4 := Lib.hid hv4; have HBW4 := Lib.hid hbw4
    have hsb5 : w.heap.size < sb := by have := HB3.out.size; omega
    clear CN hs4 hv4 hbw4 hb4 hW4 HNK hsb
    obtain ⟨⟨p0, p1, p2, p3, p4, p5⟩, _⟩ := six_blkF HS4.out
    by_cases hE0 : E = 0
    · subst hE0
      have hcn := HCN.out
      rw [if_neg (by decide)] at hcn
      obtain ⟨⟨pe, T, N, G, m⟩, hpk⟩ : ∃ pk, schemaK s = pk := ⟨_, rfl⟩
      rw [hpk] at hcn
      have HCN2 := Lib.hid hcn; have HPK := Lib.hid hpk
      clear hcn hpk HCN
      by_cases hp0 : pe = 0
      · subst hp0
        have BK := built_of HE.out (by rw [HPK.out])
        rw [HPK.out] at BK
        have GK := good_of HE.out
        have HOP : Hid (∀ i, i < T.length → openK T N 13 i < T.length ∧ (T.getD (openK T N 13 i) default).kind ≠ 9) := fun i hi => ⟨(open13 GK BK.good BK.names hi).1, (open13 GK BK.good BK.names hi).2.1⟩
        have HL : Hid (∀ k ∈ T, k.kind = 9 → lookN N k.name < T.length) := fun k hk h9 => by
          obtain ⟨x, hx, hxn⟩ := hasZ_iff.1 (BK.good.named k hk h9)
          rw [← hxn]
          exact (BK.names.look x hx).1
        have h120 : T.length ≤ 120 := BK.good.len
        have HBK := Lib.hid BK; have HGK := Lib.hid GK
        clear BK GK
        go_upto_region 9 with (go_at_call 25; (refine HCN2.out.mono ?_); rintro e w5 ⟨⟨k1, -⟩, x5⟩; obtain ⟨tb, rb, nb, mb, gb, ty, nu, vs, rfl, hst⟩ := k1 rfl; have hz5 := x5.size; have HST := Lib.hid hst; have HX5 := Lib.hid x5; clear k1 hst x5)
        clear p0 p1 p2 p3 p4 p5 HCN2
        go_wp2_with fail
        go_loopw [9] (fun iv wr => ∃ i, Op1 w5 T.length iv wr i) (fun iv _ => T.length - (intOf iv).toNat)
        case atStart => exact ⟨0, rfl, Nat.zero_le _, Below.refl _ _⟩
        case round =>
          obtain ⟨i, h⟩ := hrel
          obtain rfl := h.slot
          have hle := h.le
          have hwr := h.below.size
          have HS0r := Lib.hid (HST.out.below h.below)
          have HBr := Lib.hid h.below
          clear h
          by_cases hlt : i < T.length
          · have hiz : (i : Int) < (T.length : Int) := by omega
            obtain ⟨ho1, ho2⟩ := HOP.out i hlt
            obtain ⟨r, hr⟩ : ∃ r, openK T N 13 i = r := ⟨_, rfl⟩
            rw [hr] at ho1 ho2
            have er : T.getD r default = T[r] := by rw [List.getD, List.getElem?_eq_getElem ho1]; rfl
            have HR := Lib.hid hr; have HO2 := Lib.hid ho2; have HER := Lib.hid er
            clear hr ho2 er
            go_upto_region 12 with (go_at_call 29; (refine (len_any _ _ _ _ _ _ _ _ _ _ HS0r.out.tab).mono ?_); rintro e u1 ⟨rfl, b1⟩; have hy1 := b1.size; have HS1r := Lib.hid (HS0r.out.below b1); have HU1 := Lib.hid b1; clear b1)
            go_upto_region 13 with (go_at_call 30; (refine (tnode_in i _ _ _ _ _ _ _ _ _ T HS1r.out.tab hlt).mono ?_); rintro e u2 ⟨an, cn, ak, ck, rfl, -, -, b2⟩; have hy2 := b2.size; have HS2r := Lib.hid (HS1r.out.below b2); have HU2 := Lib.hid b2; clear b2)
            obtain ⟨W7, hW7⟩ : ∃ W7, W7 = u2.alloc (.cells #[.int .i64 T[i].kind, .string ⟨T[i].name.toArray⟩, .slice an T[i].names.length cn, .slice ak T[i].kids.length ck] 64) := ⟨_, rfl⟩
            have hb7 : Below u2.heap.size u2 W7 := by rw [hW7]; exact (Below.refl _ _).alloc (Nat.le_refl _) _
            have hz7 : W7.heap.size = u2.heap.size + 1 := by rw [hW7]; simp
            have hn7 : W7.heap[u2.heap.size]? = some (.cells #[.int .i64 T[i].kind, .string ⟨T[i].name.toArray⟩, .slice an T[i].names.length cn, .slice ak T[i].kids.length ck] 64 (0, 0)) := by rw [hW7]; exact heap_alloc_new u2 _
            rw [← hW7]
            have HS7r := Lib.hid (HS2r.out.below hb7); have HN7 := Lib.hid hn7; have HB7 := Lib.hid hb7
            clear hW7 hb7 hn7
            go_upto_region 14 with (go_at_call 31; (refine (topen_any i 13 r _ _ _ _ _ _ _ _ _ T N HS7r.out.tab HS7r.out.names hlt HR.out HO2.out HL.out).mono ?_); rintro e u3 ⟨rfl, b3⟩; have hy3 := b3.size; have HS3r := Lib.hid (HS7r.out.below b3); have HU3 := Lib.hid b3; clear b3)
            go_upto_region 15 with (go_at_call 30; (refine (tnode_in r _ _ _ _ _ _ _ _ _ T HS3r.out.tab ho1).mono ?_); rintro e u4 ⟨an2, cn2, ak2, ck2, rfl, -, -, b4⟩; have hy4 := b4.size; have HU4 := Lib.hid b4; clear b4)
            obtain ⟨W8, hW8⟩ : ∃ W8, W8 = u4.alloc (.cells #[.int .i64 T[r].kind, .string ⟨T[r].name.toArray⟩, .slice an2 T[r].names.length cn2, .slice ak2 T[r].kids.length ck2] 64) := ⟨_, rfl⟩
            have hb8 : Below u4.heap.size u4 W8 := by rw [hW8]; exact (Below.refl _ _).alloc (Nat.le_refl _) _
            have hz8 : W8.heap.size = u4.heap.size + 1 := by rw [hW8]; simp
            have hn8 : W8.heap[u4.heap.size]? = some (.cells #[.int .i64 T[r].kind, .string ⟨T[r].name.toArray⟩, .slice an2 T[r].names.length cn2, .slice ak2 T[r].kids.length ck2] 64 (0, 0)) := by rw [hW8]; exact heap_alloc_new u4 _
            have hn78 := (hb8.block u2.heap.size (by omega)).trans ((HU4.out.block u2.heap.size (by omega)).trans ((HU3.out.block u2.heap.size (by omega)).trans HN7.out))
            rw [← hW8]
            have hbr8 : Below w5.heap.size w5 W8 := HBr.out.trans ((HU1.out.mono (by omega)).trans ((HU2.out.mono (by omega)).trans ((HB7.out.mono (by omega)).trans ((HU3.out.mono (by omega)).trans ((HU4.out.mono (by omega)).trans (hb8.mono (by omega)))))))
            obtain ⟨⟨q0, -, -, -⟩, -⟩ := four_blk hn8
            obtain ⟨⟨q1, -, -, -⟩, -⟩ := four_blk hn78
            have hkr : ¬ T[r].kind = 9 := by have := HO2.out; rw [HER.out] at this; exact this
            have hki : T[i].kind ≠ 9 → r = i := fun h9 => by
              rw [← HR.out]
              exact openK_stop T N 13 i (by rw [List.getD, List.getElem?_eq_getElem hlt]; exact h9)
            have HB8 := Lib.hid hbr8; have HKI := Lib.hid hki; have HLT : Hid (i < T.length) := Lib.hid hlt
            generalize T[r].kind = kr at *
            generalize T[i].kind = ki at *
            clear hW8 hb8 hn8 hn78 hbr8 hki HN7 HR HO2 HER
            by_cases hk9 : ki = 9
            · subst hk9
              clear HKI
              go_wp2
              go_roundw
              case rel => exact ⟨i + 1, by go_num, HLT.out, HB8.out⟩
              case measure => have h0 := HLT.out; simp [intOf]; omega
            · have hri := HKI.out hk9
              subst hri
              clear HKI
              go_wp2
              go_roundw
              case rel => exact ⟨r + 1, by go_num, HLT.out, HB8.out⟩
              case measure => have h0 := HLT.out; simp [intOf]; omega
          · have hiz : ¬ (i : Int) < (T.length : Int) := by omega
            go_wp2_with (go_at_call 29; (refine (len_any _ _ _ _ _ _ _ _ _ _ HS0r.out.tab).mono ?_); rintro e u1 ⟨rfl, b1⟩; have hy1 := b1.size; have HS1r := Lib.hid (HS0r.out.below b1); have HU1 := Lib.hid (HBr.out.trans (b1.mono (by omega))); clear b1)
            clear hiz
            go_loopw [16] (fun iv wr2 => ∃ j T2 rb2 nb2 ty2 nu2, Op2 W4 tb mb gb m s N G vs iv wr2 j T2 rb2 nb2 ty2 nu2) (fun iv _ => s.types.length - (intOf iv).toNat)
            case atStart => exact ⟨0, T, rb, nb, ty, nu, rfl, Nat.zero_le _, HS1r.out, HBK.out.good, HBK.out.names, HX5.out.trans (HU1.out.mono hz5)⟩
            case round =>
              obtain ⟨j, T2, rb2, nb2, ty2, nu2, h⟩ := hrel
              obtain rfl := h.slot
              have hjl := h.le
              have hwr2 := h.below.size
              obtain ⟨⟨p0, p1, p2, p3, p4, p5⟩, _⟩ := six_blkF ((h.below.block sb hsb4).trans HS4.out)
              by_cases hj : j < s.types.length
              · have hjz : (j : Int) < (s.types.length : Int) := by omega
                have hj0 : (0 : Int) ≤ (j : Int) := by omega
                have hju : j < us.length := by rw [HV4.out.nt]; exact hj
                obtain ⟨gx, ox, rfl, hgx, hcx⟩ := nam_at (wb := w3.heap.size) HV4.out.rt (fun _ h => h) j hju
                obtain ⟨hvn, hvt⟩ := HV4.out.vt j hj hju
                rw [hvn] at hcx
                obtain ⟨q0, q1, q2, q3, q4⟩ := hcx wr (fun k hk => h.below.block k (by omega))
                obtain ⟨hx1, hx2, hx3⟩ := HSH.out.types j hj
                have hpure := opens_pure HGK.out (adds_of HE.out) h.good h.names (List.getElem_mem hj)
                have hfun : hasZ N = hasZ s.types := by
                  have := HBK.out.has
                  exact funext this
                have CA := add_any (.mk 9 s.types[j].1 [] []) (by rw [fitZ]; simp [fitZs]; unfold maxLen; omega) (by simp [shortZ, shortZs, hx1]) wr tb rb2 nb2 mb gb m ty2 nu2 T2 N (fun _ => False) ⟨9, ⟨s.types[j].1.toArray⟩, none, 0, 0, none, 0, 0⟩ h.st.tab h.st.names (TzV.leaf _ _ 9 _) (fun g hg => hg.elim)
                rw [hfun] at CA
                obtain ⟨⟨y1, y2, y3⟩, hy⟩ : ∃ y, addK (hasZ s.types) T2 (.mk 9 s.types[j].1 [] []) = y := ⟨_, rfl⟩
                rw [hy] at CA hpure
                dsimp only at CA hpure
                obtain ⟨e20, g3, pre3, hok⟩ := hpure
                have CB : ∀ (W : World) (rb3 nb3 : Nat) (ty3 nu3 : Value), Below W4.heap.size W4 W → StV W4.heap.size W tb rb3 nb3 mb gb m ty3 nu3 y3 N G vs → Calls Try.prog 32 #[.pointer (some ⟨tb, 0, none⟩), .agg #[.int .i64 us[j].2.k, .string us[j].2.n, .slice us[j].2.an us[j].2.ln us[j].2.cn, .slice us[j].2.ak us[j].2.lk us[j].2.ck]] W _ := fun W rb3 nb3 ty3 nu3 hW hs =>
                  add_any s.types[j].2 hx2 hx3 W tb rb3 nb3 mb gb m ty3 nu3 y3 N (fun g => g < w3.heap.size) us[j].2 hs.tab hs.names (hvt.keep (fun _ h => h) fun g hg => hW.block g (by omega)) (fun g hg => ⟨by have := hW.size; omega, hs.far (by omega)⟩)
                rw [hfun] at CB
                obtain ⟨⟨z1, z2, z3⟩, hz⟩ : ∃ z, addK (hasZ s.types) y3 s.types[j].2 = z := ⟨_, rfl⟩
                rw [hz] at CB hok
                dsimp only at CB hok
                have hn3 := h.names.grow h.good pre3
                have HCA := Lib.hid CA; have HCB := Lib.hid CB; have HOK := Lib.hid hok; have HN3 := Lib.hid hn3; have HG3 := Lib.hid g3; have H := Lib.hid h; have HJ : Hid (j < s.types.length) := Lib.hid hj
                have hln : lookN N s.types[j].1 = lookN N s.types[j].1 := rfl
                generalize hlo : lookN N s.types[j].1 = lo at *
                generalize s.types[j].1 = nm at *
                generalize us[j].2 = cx at *
                have HCX := Lib.hid hcx
                clear CA CB hok hn3 g3 h hvt hcx hx2 hx3 hy hz hln pre3
                go_upto_region 22 with first
                  | (go_at_call 32; (refine HCA.out.mono ?_); rintro e u2 ⟨rb3, nb3, ty3, nu3, rfl, ha⟩; have hy2 := ha.keeps.size; obtain ⟨s3, b3⟩ := H.out.st.add ha (by omega); have HS3 := Lib.hid s3; have HB3' := Lib.hid (H.out.below.trans b3); obtain ⟨⟨m0, m1, m2, m3, m4, m5⟩, _⟩ := six_blkF (((H.out.below.trans b3).block sb hsb4).trans HS4.out); obtain ⟨-, v1, v2, v3, v4⟩ := HCX.out u2 (fun k hk => (H.out.below.trans b3).block k (by omega)); have v2' : u2.cell? ⟨gx, ox + j * 5 + 1 + 1, none⟩ = _ := v2; have v3' : u2.cell? ⟨gx, ox + j * 5 + 1 + 2, none⟩ = _ := v3; have v4' : u2.cell? ⟨gx, ox + j * 5 + 1 + 3, none⟩ = _ := v4; clear s3 b3 ha HCA)
                  | (go_at_call 32; (refine (HCB.out _ _ _ _ _ HB3'.out HS3.out).mono ?_); rintro e u3 ⟨rb4, nb4, ty4, nu4, rfl, ha⟩; have hy3 := ha.keeps.size; obtain ⟨s4, b4⟩ := HS3.out.add ha (by have := HB3'.out.size; omega); have HS4' := Lib.hid s4; have HB4' := Lib.hid (HB3'.out.trans b4); clear s4 b4 ha HCB)
                by_cases h20 : y2 = 0
                · subst h20
                  obtain ⟨hB, o1, o2, o3⟩ := HOK.out (by trivial)
                  simp only [Prod.mk.injEq] at hB
                  obtain ⟨rfl, rfl, rfl⟩ := hB
                  have r9 := (open13 HGK.out HG3.out HN3.out o1).2.1
                  obtain ⟨r, hr⟩ : ∃ r, openK z3 N 13 y1 = r := ⟨_, rfl⟩
                  rw [hr] at r9 o3
                  have HR1 := Lib.hid hr; have HR2 := Lib.hid o3.symm; have HR9 := Lib.hid r9; have HL3 := Lib.hid (look_lt HG3.out HN3.out)
                  clear hr o3 r9
                  go_upto_region 26 with first
                    | (go_at_call 31; (refine (topen_any y1 13 r _ _ _ _ _ _ _ _ _ z3 N HS4'.out.tab HS4'.out.names o1 HR1.out HR9.out HL3.out).mono ?_); rintro e u4 ⟨rfl, b4⟩; have hy4 := b4.size; have HS5 := Lib.hid (HS4'.out.below b4); have HU4 := Lib.hid b4; clear b4 HR1)
                    | (go_at_call 31; (refine (topen_any z1 13 r _ _ _ _ _ _ _ _ _ z3 N HS5.out.tab HS5.out.names o2 HR2.out HR9.out HL3.out).mono ?_); rintro e u5 ⟨rfl, b5⟩; have hy5 := b5.size; have HS6 := Lib.hid (HS5.out.below b5); have HU5 := Lib.hid b5; clear b5 HR2)
                  have hq := HB4'.out.size
                  go_wp2
                  go_roundw
                  case rel => exact ⟨j + 1, z3, rb4, nb4, ty4, nu4, by go_num, HJ.out, HS6.out, HG3.out, HN3.out, HB4'.out.trans ((HU4.out.mono (by omega)).trans (HU5.out.mono (by omega)))⟩
                  case measure => have h0 := HJ.out; simp [intOf]; omega
                · obtain rfl : y2 = 20 := e20.resolve_left h20
                  go_wp2
                  go_ret
                  exact ⟨rfl, HBW4.out.trans (HB4'.out.mono hw4)⟩
              · have hjz : ¬ (j : Int) < (s.types.length : Int) := by omega
                have H := Lib.hid h
                clear h
                go_wp2
                go_ret
                exact ⟨rfl, HBW4.out.trans (H.out.below.mono hw4)⟩
      · have t0 : ((pe : Nat) == (0 : Int)) = false := by simp; omega
        have hne : (pe : Int) ≠ 0 := by omega
        go_wp2_with (go_at_call 25; (refine HCN2.out.mono ?_); rintro e w5 ⟨⟨-, k2⟩, x5⟩; obtain rfl := k2 hp0; have HX5 := Lib.hid x5; clear k2 x5)
        go_ret
        exact ⟨rfl, HBW4.out.trans (HX5.out.mono hw4)⟩
    · have hcn := HCN.out
      rw [if_pos hE0] at hcn
      have HCN2 := Lib.hid hcn
      have t0 : ((E : Nat) == (0 : Int)) = false := by simp; omega
      have hne : (E : Int) ≠ 0 := by omega
      clear hcn HCN
      go_wp2_with (go_at_call 25; (refine HCN2.out.mono ?_); rintro e w5 ⟨⟨-, k2⟩, x5⟩; obtain rfl := k2 hE0; have HX5 := Lib.hid x5; clear k2 x5)
      go_ret
      exact ⟨rfl, HBW4.out.trans (HX5.out.mono hw4)⟩
end Sp
end Go.Proofs.Ytjjpjkkaogfoaaa
