/- ConsBases: its walk. Written by gen_kbases.py. -/
import Derived.Test.YtmhihnpimanhfaaB50
import Derived.Test.YtmhihnpimanhfaaB52
import Derived.Test.YtmhihnpimanhfaaB53
import Derived.Test.YtmhihnpimanhfaaB29
import Derived.Test.YtmhihnpimanhfaaB48
import Derived.Test.YtmhihnpimanhfaaB19
import Derived.WideShapes
import Derived.ChangeShapes
import Derived.Test.YtmhihnpimanhfaaB15
import Derived.ProofKit
import Derived.OpenShut
import Derived.KernelRfl
namespace Go.Proofs.Ytmhihnpimanhfaa
open Go.RowKit
namespace Sp
open Sc
set_option maxRecDepth 100000
theorem look_lt {s : Sz} {N : List NN} {T : List Kz} (hg : TabG (hasZ s.types) 400 T) (hn : NamW T N s.types) : ∀ k ∈ T, k.kind = 9 → lookN N k.name < T.length := fun k hk h9 => by
  obtain ⟨x, hx, hxn⟩ := hasZ_iff.1 (hg.named k hk h9)
  rw [← hxn]
  exact (hn.look x hx).1
/-- The base types so far. -/
structure BaR (W4 : World) (tb mb gb m : Nat) (s : Sz) (N : List NN) (G : List GN) (vs : List Value) (iv : Value) (wr : World) (k : Int) (T : List Kz) (rb nb : Nat) (ty nu : Value) : Prop where
  slot : iv = .int .i64 k
  lo : 1 ≤ k
  hi : k ≤ 4
  st : StV W4.heap.size wr tb rb nb mb gb m ty nu T N G vs
  good : TabG (hasZ s.types) 400 T
  names : NamW T N s.types
  below : Below W4.heap.size W4 wr
set_option maxHeartbeats 16000000 in
theorem ConsBases_any (main : Rw) (types : List Rw) (cm : R4) (at1 : Option Addr) (ut : List R4) (c1 : Nat) (w : World) (hM : RwV w main cm) (hT : RwsV w types at1 ut) (hl : types.length ≤ maxLen) (id : Int) (hi1 : -9223372036854775808 ≤ id) (hi2 : id ≤ 9223372036854775807) :
    Calls Try.prog 6 #[.agg #[.int .i64 cm.k, .int .i64 cm.n, .slice cm.an cm.ln cm.cn, .slice cm.ak cm.lk cm.ck], .slice at1 types.length c1, .int .i64 id] w fun e w' => e = .returned (.bool true) ∧ Below w.heap.size w w' := by
  have HM := Lib.hid hM; have HT := Lib.hid hT
  clear hM hT
  obtain ⟨W0, hW0⟩ : ∃ W0, W0 = w.alloc (.cells #[.int .i64 cm.k, .int .i64 cm.n, .slice cm.an cm.ln cm.cn, .slice cm.ak cm.lk cm.ck] 33) := ⟨_, rfl⟩
  have hb0 : Below w.heap.size w W0 := by rw [hW0]; exact (Below.refl _ _).alloc (Nat.le_refl _) _
  have hz0 : W0.heap.size = w.heap.size + 1 := by rw [hW0]; simp
  have hs0 : W0.heap[w.heap.size]? = some (.cells #[.int .i64 cm.k, .int .i64 cm.n, .slice cm.an cm.ln cm.cn, .slice cm.ak cm.lk cm.ck] 33 (0, 0)) := by rw [hW0]; exact heap_alloc_new w _
  have HW0 := Lib.hid hW0; have HB0 := Lib.hid hb0; have HS0 := Lib.hid hs0
  clear hW0 hb0 hs0
  go_enter Try.func6, Try.ntmps6
  go_upto_region 1 with fail
  rw [← HW0.out]
  clear HW0
  go_upto_region 3 with (go_at_call 20; (with_reducible refine (known5_any _).mono ?_); rintro e w1 ⟨rfl, x1⟩; have hz1 := x1.size; obtain ⟨⟨p0, p1, p2, p3⟩, _⟩ := four_blk ((x1.block w.heap.size (by omega)).trans HS0.out); have HS1 := Lib.hid ((x1.block w.heap.size (by omega)).trans HS0.out); have HB1 := Lib.hid (HB0.out.trans (x1.mono (by omega))); clear x1)
  have CF : Calls Try.prog 13 #[.agg #[.int .i64 cm.k, .int .i64 cm.n, .slice cm.an cm.ln cm.cn, .slice cm.ak cm.lk cm.ck], .slice at1 types.length c1, .slice none 0 0] w1 _ := FewAll_any main types [] cm at1 none ut [] c1 0 w1 (HM.out.later HB1.out) (HT.out.up HB1.out) ⟨rfl, .inl rfl, fun i h => by cases h⟩ hl (by simp)
  obtain ⟨fa, hfa⟩ : ∃ fa, fewAllR main types [] = fa := ⟨_, rfl⟩
  rw [hfa] at CF
  have HCF := Lib.hid CF
  clear CF hfa
  cases fa
  · go_wp2_with (go_at_call 13; (with_reducible refine HCF.out.mono ?_); rintro e w2 ⟨rfl, x2⟩; have HX2 := Lib.hid x2; clear x2)
    go_ret
    exact ⟨rfl, HB1.out.trans (HX2.out.mono (by omega))⟩
  · go_upto_region 5 with (go_at_call 13; (with_reducible refine HCF.out.mono ?_); rintro e w2 ⟨rfl, x2⟩; have hz2 := x2.size; obtain ⟨⟨m0, m1, m2, m3⟩, _⟩ := four_blk ((x2.block w.heap.size (by omega)).trans HS1.out); have HB2 := Lib.hid (HB1.out.trans (x2.mono (by omega))); clear x2)
    obtain ⟨s, hs⟩ : ∃ s, schR main types [] = s := ⟨_, rfl⟩
    have hft : s.types.length ≤ 4 := by rw [← hs, schR_types]; omega
    have hfs : s.sigs.length ≤ 4 := by rw [← hs, schR_sigs]; omega
    have hfit : SzFit s := by rw [← hs]; exact schR_fit _ _ _
    have hsh : ShortS s := by rw [← hs]; exact schR_short _ _ _
    have CG := Good_any main types [] cm at1 none ut [] c1 0 w2 (HM.out.later HB2.out) (HT.out.up HB2.out) ⟨rfl, .inl rfl, fun i h => by cases h⟩ hl (by simp) (by rw [hs]; omega) (by rw [hs]; omega) (by rw [hs]; exact hfit)
    rw [hs] at CG
    obtain ⟨E, hE⟩ : ∃ E, refC s = E := ⟨_, rfl⟩
    have hNK : newK s = if E ≠ 0 then (E, default) else schemaK s := by unfold newK; rw [hE]
    rw [hE] at CG
    have HCG := Lib.hid CG; have HE := Lib.hid hE; have HNK := Lib.hid hNK; have HFIT := Lib.hid hfit; have HSH := Lib.hid hsh
    clear CG hs hE hNK hfit hsh p0 p1 p2 p3
    go_upto_region 6 with (go_at_call 21; (refine HCG.out.mono ?_); rintro e w3 ⟨c, a1, n1, us, a2, n2, gs, rfl, hv3, x3⟩; have hz3 := x3.size; have HV3 := Lib.hid hv3; have HB3 := Lib.hid (HB2.out.trans (x3.mono (by have := HB2.out.size; omega))); clear x3 hv3)
    obtain ⟨sb, hsb⟩ : ∃ sb, sb = w3.heap.size := ⟨_, rfl⟩
    obtain ⟨W4, hW4⟩ : ∃ W4, W4 = w3.alloc (.cells #[.int .i64 c.k, .string c.n, .slice c.an c.ln c.cn, .slice c.ak c.lk c.ck, .slice a1 s.types.length n1, .slice a2 s.sigs.length n2] 29) := ⟨_, rfl⟩
    have hz4 : W4.heap.size = w3.heap.size + 1 := by rw [hW4]; simp
    have hb4 : Below w3.heap.size w3 W4 := by rw [hW4]; exact (Below.refl _ _).alloc (Nat.le_refl _) _
    have hs4 : W4.heap[sb]? = some (.cells #[.int .i64 c.k, .string c.n, .slice c.an c.ln c.cn, .slice c.ak c.lk c.ck, .slice a1 s.types.length n1, .slice a2 s.sigs.length n2] 29 (0, 0)) := by rw [hW4, hsb]; exact heap_alloc_new w3 _
    have hv4 : SzV W4 (fun g => g < w3.heap.size) s c a1 us a2 gs := HV3.out.keepS (fun g hg => hb4.block g hg.2) (fun g hg => hg.2)
    have CN := New_any s c a1 a2 us gs n1 n2 W4 (fun g => g < w3.heap.size) (fun g hg => by omega) hv4 HFIT.out HSH.out (by omega) (by omega)
    rw [HNK.out] at CN
    have hbw4 := HB3.out.trans (hb4.mono (by have := HB3.out.size; omega))
    rw [← hW4, ← hsb]
    have hsb4 : sb < W4.heap.size := by omega
    have hw4 := hbw4.size
    have HCN := Lib.hid CN; have HS4 := Lib.hid hs4; have HV4 := Lib.hid hv4; have HBW4 := Lib.hid hbw4
    have hsb5 : w.heap.size < sb := by have := HB3.out.size; omega
    clear CN hs4 hv4 hbw4 hb4 hW4 HNK hsb
    obtain ⟨⟨p0, p1, p2, p3, p4, p5⟩, _⟩ := six_blkF HS4.out
    by_cases hE0 : E = 0
    · subst hE0
      have hcn := HCN.out
      rw [if_neg (by decide)] at hcn
      obtain ⟨⟨pe, T, N, G, m⟩, hpk⟩ : ∃ pk, schemaK s = pk := ⟨_, rfl⟩
      rw [hpk] at hcn
      have HCN2 := Lib.hid hcn; have HPK := Lib.hid hpk
      clear hcn hpk HCN
      by_cases hp0 : pe = 0
      · subst hp0
        have BK := built_of HE.out (by rw [HPK.out])
        rw [HPK.out] at BK
        have GK := good_of HE.out
        have HOP : Hid (∀ i, i < T.length → openK T N 13 i < T.length ∧ (T.getD (openK T N 13 i) default).kind ≠ 9) := fun i hi => ⟨(open13 GK BK.good BK.names hi).1, (open13 GK BK.good BK.names hi).2.1⟩
        have HL : Hid (∀ k ∈ T, k.kind = 9 → lookN N k.name < T.length) := fun k hk h9 => by
          obtain ⟨x, hx, hxn⟩ := hasZ_iff.1 (BK.good.named k hk h9)
          rw [← hxn]
          exact (BK.names.look x hx).1
        have h120 : T.length ≤ 120 := BK.good.len
        have HBK := Lib.hid BK; have HGK := Lib.hid GK
        clear BK GK
        go_upto_region 9 with (go_at_call 22; (refine HCN2.out.mono ?_); rintro e w5 ⟨⟨k1, -⟩, x5⟩; obtain ⟨tb, rb, nb, mb, gb, ty, nu, vs, rfl, hst⟩ := k1 rfl; have hz5 := x5.size; have HST := Lib.hid hst; have HX5 := Lib.hid x5; clear k1 hst x5)
        clear p0 p1 p2 p3 p4 p5 HCN2
        go_wp2_with fail
        go_loopw [11] (fun iv wr => ∃ k T2 rb2 nb2 ty2 nu2, BaR W4 tb mb gb m s N G vs iv wr k T2 rb2 nb2 ty2 nu2) (fun iv _ => 4 - (intOf iv).toNat)
        case atStart => exact ⟨1, T, rb, nb, ty, nu, rfl, by omega, by omega, HST.out, HBK.out.good, HBK.out.names, HX5.out⟩
        case round =>
          obtain ⟨k, T2, rb2, nb2, ty2, nu2, h⟩ := hrel
          obtain rfl := h.slot
          have hk1 := h.lo
          have hk4 := h.hi
          have hwr := h.below.size
          by_cases hk3 : k ≤ 3
          · obtain ⟨e20, g3, pre3, hok, hbad⟩ := base_pure h.good k hk1 hk3
            have CA := base_any k hk1 hk3 wr tb rb2 nb2 mb gb m ty2 nu2 T2 h.st.tab
            obtain ⟨⟨y1, y2, y3⟩, hy⟩ : ∃ y, numK T2 (baseK k) = y := ⟨_, rfl⟩
            rw [hy] at CA e20 g3 pre3 hok hbad
            dsimp only at CA e20 g3 pre3 hok hbad
            have CB := fun (W : World) (rb3 nb3 : Nat) (ty3 nu3 : Value) (hs : StV W4.heap.size W tb rb3 nb3 mb gb m ty3 nu3 y3 N G vs) => base_any k hk1 hk3 W tb rb3 nb3 mb gb m ty3 nu3 y3 hs.tab
            have hn3 := h.names.grow h.good pre3
            have h120 : y3.length ≤ 120 := g3.len
            have H := Lib.hid h; have HCA := Lib.hid CA; have HG3 := Lib.hid g3; have HN3 := Lib.hid hn3; have HB0 := Lib.hid h.below
            clear h CA g3 hn3 hy pre3
            by_cases h20 : y2 = 0
            · subst h20
              obtain ⟨o1, o2, o3⟩ := hok rfl
              have HKY := Lib.hid o2
              clear o2
              rw [o3] at CB
              have HCB := Lib.hid CB
              clear CB o3 hok hbad e20
              go_upto_region 13 with (go_at_call 33; (refine (HCA.out).mono ?_); rintro e u3 ⟨rb3, nb3, ty3, nu3, rfl, ha⟩; have hu3 := ha.keeps.size; obtain ⟨s3, b3⟩ := H.out.st.add ha (by omega); have HS3 := Lib.hid s3; have HU3 := Lib.hid b3; clear s3 b3 ha)
              go_upto_region 14 with (go_at_call 28; (refine (len_any _ _ _ _ _ _ _ _ _ _ HS3.out.tab).mono ?_); rintro e u4 ⟨rfl, b4⟩; have hu4 := b4.size; have HS4 := Lib.hid (HS3.out.below b4); have HU4 := Lib.hid b4; clear b4)
              go_upto_region 15 with (go_at_call 33; (refine (HCB.out _ _ _ _ _ HS4.out).mono ?_); rintro e u5 ⟨rb5, nb5, ty5, nu5, rfl, ha⟩; have hu5 := ha.keeps.size; obtain ⟨s5, b5⟩ := HS4.out.add ha (by omega); have HS5 := Lib.hid s5; have HU5 := Lib.hid b5; clear s5 b5 ha)
              go_upto_region 16 with (go_at_call 31; (refine (tnode_in y1 _ _ _ _ _ _ _ _ _ y3 HS5.out.tab o1).mono ?_); rintro e u6 ⟨an, cn, ak, ck, rfl, -, -, b6⟩; have hu6 := b6.size; have HS6 := Lib.hid (HS5.out.below b6); have HU6 := Lib.hid b6; clear b6)
              obtain ⟨W7, hW7⟩ : ∃ W7, W7 = u6.alloc (.cells #[.int .i64 y3[y1].kind, .string ⟨y3[y1].name.toArray⟩, .slice an y3[y1].names.length cn, .slice ak y3[y1].kids.length ck] 64) := ⟨_, rfl⟩
              have hb7 : Below u6.heap.size u6 W7 := by rw [hW7]; exact (Below.refl _ _).alloc (Nat.le_refl _) _
              have hn7 : W7.heap[u6.heap.size]? = some (.cells #[.int .i64 y3[y1].kind, .string ⟨y3[y1].name.toArray⟩, .slice an y3[y1].names.length cn, .slice ak y3[y1].kids.length ck] 64 (0, 0)) := by rw [hW7]; exact heap_alloc_new u6 _
              rw [← hW7]
              have hz7 := hb7.size
              have hu7 : u6.heap.size < W7.heap.size := by rw [hW7]; simp
              have HS7 := Lib.hid (HS6.out.below hb7); have HN7 := Lib.hid hn7
              have hall : Below W4.heap.size W4 W7 := HB0.out.trans (HU3.out.trans ((HU4.out.mono (by omega)).trans (HU5.out.trans ((HU6.out.mono (by omega)).trans (hb7.mono (by omega))))))
              have HALL := Lib.hid hall
              obtain ⟨⟨q0, -, -, -⟩, -⟩ := four_blk hn7
              rw [show y3[y1].kind = k from HKY.out] at q0
              clear hW7 hb7 hn7 hall
              go_wp2_with (go_at_call 28; (refine (len_any _ _ _ _ _ _ _ _ _ _ HS7.out.tab).mono ?_); rintro e u8 ⟨rfl, b8⟩; have hu8 := b8.size; have HS8 := Lib.hid (HS7.out.below b8); have HU8 := Lib.hid b8; obtain ⟨⟨q0', -, -, -⟩, -⟩ := four_blk ((b8.block u6.heap.size (by omega)).trans HN7.out); rw [show y3[y1].kind = k from HKY.out] at q0'; clear b8)
              go_roundw
              case rel => exact ⟨k + 1, y3, rb5, nb5, ty5, nu5, by go_num, by omega, by omega, HS8.out, HG3.out, HN3.out, HALL.out.trans (HU8.out.mono (by omega))⟩
              case measure => simp [intOf]; omega
            · obtain rfl : y2 = 20 := e20.resolve_left h20
              obtain ⟨o3, rfl, o1⟩ := hbad rfl
              rw [o3] at CB
              have HCB := Lib.hid CB
              clear CB o3 hok hbad e20 h20
              go_upto_region 13 with (go_at_call 33; (refine (HCA.out).mono ?_); rintro e u3 ⟨rb3, nb3, ty3, nu3, rfl, ha⟩; have hu3 := ha.keeps.size; obtain ⟨s3, b3⟩ := H.out.st.add ha (by omega); have HS3 := Lib.hid s3; have HU3 := Lib.hid b3; clear s3 b3 ha)
              go_upto_region 14 with (go_at_call 28; (refine (len_any _ _ _ _ _ _ _ _ _ _ HS3.out.tab).mono ?_); rintro e u4 ⟨rfl, b4⟩; have hu4 := b4.size; have HS4 := Lib.hid (HS3.out.below b4); have HU4 := Lib.hid b4; clear b4)
              go_upto_region 15 with (go_at_call 33; (refine (HCB.out _ _ _ _ _ HS4.out).mono ?_); rintro e u5 ⟨rb5, nb5, ty5, nu5, rfl, ha⟩; have hu5 := ha.keeps.size; obtain ⟨s5, b5⟩ := HS4.out.add ha (by omega); have HS5 := Lib.hid s5; have HU5 := Lib.hid b5; clear s5 b5 ha)
              go_wp2_with (go_at_call 31; (refine (tnode_in 0 _ _ _ _ _ _ _ _ _ y3 HS5.out.tab o1).mono ?_); rintro e u6 ⟨an, cn, ak, ck, rfl, -, -, b6⟩; have hu6 := b6.size; have HU6 := Lib.hid b6; clear b6)
              go_ret
              exact ⟨rfl, HBW4.out.trans ((HB0.out.trans (HU3.out.trans ((HU4.out.mono (by omega)).trans (HU5.out.trans ((HU6.out.mono (by omega)).trans (((Below.refl _ _).alloc (Nat.le_refl _) _).mono (by omega))))))).mono hw4)⟩
          · obtain rfl : k = 4 := by omega
            have H := Lib.hid h
            have h120 : T2.length ≤ 120 := h.good.len
            have hdd := h.below
            clear h
            by_cases hid : 0 ≤ id ∧ id < (T2.length : Int)
            · obtain ⟨i, rfl⟩ : ∃ i : Nat, id = (i : Int) := ⟨id.toNat, by omega⟩
              have hi : i < T2.length := by omega
              have hiz : (i : Int) < (T2.length : Int) := by omega
              have hiz0 : (0 : Int) ≤ (i : Int) := by omega
              obtain ⟨q1, q2, -⟩ := open13 HGK.out H.out.good H.out.names hi
              have HLK := Lib.hid (look_lt H.out.good H.out.names)
              have HQ2 := Lib.hid q2
              clear hid q2 hi1 hi2
              go_upto_region 21 with (go_at_call 31; (refine (tnode_in i _ _ _ _ _ _ _ _ _ T2 H.out.st.tab hi).mono ?_); rintro e u6 ⟨an, cn, ak, ck, rfl, -, -, b6⟩; have hu6 := b6.size; have HU6 := Lib.hid (hdd.trans (b6.mono (by omega))); have HS6 := Lib.hid (H.out.st.below b6); clear b6)
              have hb7 := HU6.out.trans ((Below.refl _ _).alloc HU6.out.size (.cells #[.int .i64 T2[i].kind, .string ⟨T2[i].name.toArray⟩, .slice an T2[i].names.length cn, .slice ak T2[i].kids.length ck] 64))
              have hs7 := HS6.out.below ((Below.refl _ _).alloc (Nat.le_refl _) (.cells #[.int .i64 T2[i].kind, .string ⟨T2[i].name.toArray⟩, .slice an T2[i].names.length cn, .slice ak T2[i].kids.length ck] 64))
              have HB7 := Lib.hid hb7; have HS7 := Lib.hid hs7
              clear hb7 hs7
              obtain ⟨r, hr⟩ : ∃ r, openK T2 N 13 i = r := ⟨_, rfl⟩
              have HRR := Lib.hid hr
              clear hr
              go_upto_region 22 with (go_at_call 34; (refine (topen_any i 13 r _ _ _ _ _ _ _ _ _ T2 N HS7.out.tab HS7.out.names hi HRR.out (by rw [← HRR.out]; exact HQ2.out) HLK.out).mono ?_); rintro e u8 ⟨rfl, b8⟩; have hu8 := b8.size; have HS8 := Lib.hid (HS7.out.below b8); have HU8 := Lib.hid (HB7.out.trans (b8.mono HB7.out.size)); clear b8)
              go_wp2_with (go_at_call 28; (refine (len_any _ _ _ _ _ _ _ _ _ _ HS8.out.tab).mono ?_); rintro e u9 ⟨rfl, b9⟩; have HU9 := Lib.hid (HU8.out.trans (b9.mono HU8.out.size)); clear b9)
              go_ret
              exact ⟨rfl, HBW4.out.trans (HU9.out.mono hw4)⟩
            · go_upto_region 21 with (go_at_call 31; (refine (tnode_out id _ _ _ _ _ _ _ _ _ T2 H.out.st.tab hid).mono ?_); unfold nodZ; rintro e u6 ⟨rfl, b6⟩; have hu6 := b6.size; have HU6 := Lib.hid (hdd.trans (b6.mono (by omega))); have HS6 := Lib.hid (H.out.st.below b6); clear b6)
              have hb7 := HU6.out.trans ((Below.refl _ _).alloc HU6.out.size (.cells #[.int .i64 0, .string ⟨#[]⟩, .slice none 0 0, .slice none 0 0] 64))
              have hs7 := HS6.out.below ((Below.refl _ _).alloc (Nat.le_refl _) (.cells #[.int .i64 0, .string ⟨#[]⟩, .slice none 0 0, .slice none 0 0] 64))
              have HB7 := Lib.hid hb7; have HS7 := Lib.hid hs7
              clear hb7 hs7
              have hid0 : 0 ≤ id → ¬ id < (T2.length : Int) := fun a b => hid ⟨a, b⟩
              go_upto_region 22 with (go_at_call 34; (refine (topen_out id _ _ _ _ _ _ _ _ _ T2 HS7.out.tab hid).mono ?_); rintro e u8 ⟨rfl, b8⟩; have hu8 := b8.size; have HS8 := Lib.hid (HS7.out.below b8); have HU8 := Lib.hid (HB7.out.trans (b8.mono HB7.out.size)); clear b8)
              have HID := Lib.hid hid
              by_cases h0 : 0 ≤ id
              · have hid1 := hid0 h0
                clear hid hid0
                go_upto_region 24 with (go_at_call 28; (refine (len_any _ _ _ _ _ _ _ _ _ _ HS8.out.tab).mono ?_); rintro e u9 ⟨rfl, b9⟩; have HS9 := Lib.hid (HS8.out.below b9); have HU9 := Lib.hid (HU8.out.trans (b9.mono HU8.out.size)); clear b9)
                go_wp2_with (first
                  | (go_at_call 25; (refine (ttype_out id _ _ _ _ _ _ _ _ _ T2 HS9.out.tab HID.out).mono ?_); unfold typZ; rintro e v1 ⟨rfl, b10⟩; have HV1 := Lib.hid (HU9.out.trans (b10.mono HU9.out.size)); clear b10)
                  | (go_at_call 24; (refine (rsame_zero _).mono ?_); rintro e v2 ⟨rfl, b11⟩; have HV2 := Lib.hid (HV1.out.trans (b11.mono HV1.out.size)); clear b11))
                go_ret
                exact ⟨rfl, HBW4.out.trans (HV2.out.mono hw4)⟩
              · clear hid hid0
                go_upto_region 24 with fail
                go_wp2_with (first
                  | (go_at_call 25; (refine (ttype_out id _ _ _ _ _ _ _ _ _ T2 HS8.out.tab HID.out).mono ?_); unfold typZ; rintro e v1 ⟨rfl, b10⟩; have HV1 := Lib.hid (HU8.out.trans (b10.mono HU8.out.size)); clear b10)
                  | (go_at_call 24; (refine (rsame_zero _).mono ?_); rintro e v2 ⟨rfl, b11⟩; have HV2 := Lib.hid (HV1.out.trans (b11.mono HV1.out.size)); clear b11))
                go_ret
                exact ⟨rfl, HBW4.out.trans (HV2.out.mono hw4)⟩
      · have t0 : ((pe : Nat) == (0 : Int)) = false := by simp; omega
        have hne : (pe : Int) ≠ 0 := by omega
        go_wp2_with (go_at_call 22; (refine HCN2.out.mono ?_); rintro e w5 ⟨⟨-, k2⟩, x5⟩; obtain rfl := k2 hp0; have HX5 := Lib.hid x5; clear k2 x5)
        go_ret
        exact ⟨rfl, HBW4.out.trans (HX5.out.mono hw4)⟩
    · have hcn := HCN.out
      rw [if_pos hE0] at hcn
      have HCN2 := Lib.hid hcn
      have t0 : ((E : Nat) == (0 : Int)) = false := by simp; omega
      have hne : (E : Int) ≠ 0 := by omega
      clear hcn HCN
      go_wp2_with (go_at_call 22; (refine HCN2.out.mono ?_); rintro e w5 ⟨⟨-, k2⟩, x5⟩; obtain rfl := k2 hE0; have HX5 := Lib.hid x5; clear k2 x5)
      go_ret
      exact ⟨rfl, HBW4.out.trans (HX5.out.mono hw4)⟩
end Sp
end Go.Proofs.Ytmhihnpimanhfaa
namespace Go.Proofs.Ytmhihnpimanhfaa
open Go.RowKit
namespace Sp
open Sc
set_option maxRecDepth 100000
theorem open_raws {H : Type} {enc : TypeId × Value → H} {w : World} {fuel : Nat} {c3 : Value} {x : DataW H × List MemPlace} (h : DataW.trod enc Try.prog w 0 (fun _ => true) true fuel 31 [c3] = some x) :
    ∃ (a : Option Addr) (c : Nat) (ks : List Rw) (us : List R4), c3 = .slice a ks.length c ∧ ks.length ≤ maxLen ∧ RwsV w ks a us := by
  have hcR : Try.prog.cellsOf 33 = 4 := by kernel_rfl
  rcases DataW.trod_slice Try.underlying31 h with ⟨hcs, _⟩ | ⟨a, l, c, elems, rest, m', hm', hcs, _, _, hl, hmx, hel, hx3, _⟩
  · cases hcs
    exact ⟨none, 0, [], [], rfl, by decide, rfl, .inl rfl, fun i h => by cases h⟩
  · cases hcs
    have each : ∀ i, i < l → ∃ r : Rw, ∃ c : R4, RwV w r c ∧ ∀ j v, c.cells[j]? = some v → w.cell? ((a.add (i * 4)).add j) = some v := fun i hi => by
      have h1 := hx3 i hi
      rw [hcR, List.getElem?_eq_getElem (by omega)] at h1
      obtain ⟨cl, h2, h3⟩ := Option.bind_eq_some_iff.1 h1
      obtain ⟨r, cc, rfl, hr⟩ := open_raw m' cl _ h3
      obtain ⟨_, _, h4⟩ := World.cells?_some h2
      refine ⟨r, cc, hr, fun j v hv => ?_⟩
      have hj : j < 4 := (List.getElem?_eq_some_iff.1 hv).1
      rw [h4 j hj]; exact hv
    obtain ⟨f, hf⟩ : ∃ f : Nat → Rw × R4, ∀ i, i < l → RwV w (f i).1 (f i).2 ∧ ∀ j v, (f i).2.cells[j]? = some v → w.cell? ((a.add (i * 4)).add j) = some v :=
      ⟨fun i => if h : i < l then ((each i h).choose, (each i h).choose_spec.choose) else default, fun i hi => by simp only [dif_pos hi]; exact (each i hi).choose_spec.choose_spec⟩
    refine ⟨some a, c, (List.range l).map fun i => (f i).1, (List.range l).map fun i => (f i).2, by simp, by simp; omega, by simp, rowV_of (by decide) (fun x hx => by obtain ⟨y, _, rfl⟩ := List.mem_map.1 hx; rfl) (fun i hi j v hv => ?_), fun i h1 h2 => ?_⟩
    · simp only [List.length_map, List.length_range] at hi
      simp only [List.getElem_map, List.getElem_range] at hv
      exact (hf i hi).2 j v hv
    · simp only [List.length_map, List.length_range] at h1
      simp only [List.getElem_map, List.getElem_range]
      exact (hf i h1).1
theorem open_rawV {H : Type} {enc : TypeId × Value → H} {w : World} {base : Nat} {v : Value} {d : DataW H} {ps : List MemPlace} (hv : Value.okWide Try.prog w .any base 33 v) (h : DataW.Trod enc Try.prog w 0 (fun _ => true) true 33 v d ps) :
    ∃ r c, v = .agg #[.int .i64 c.k, .int .i64 c.n, .slice c.an c.ln c.cn, .slice c.ak c.lk c.ck] ∧ RwV w r c := by
  obtain ⟨cs, rfl, -⟩ := Go.WideShapes.okWide_struct Try.underlying33 hv
  obtain ⟨fuel, hf⟩ := h
  obtain ⟨r, c, hc, hr⟩ := open_raw fuel _ _ hf
  refine ⟨r, c, ?_, hr⟩
  have hc : cs.toList = R4.cells c := hc
  rw [← Array.toArray_toList (xs := cs), hc]
  rfl
theorem open_rawsV {H : Type} {enc : TypeId × Value → H} {w : World} {base : Nat} {v : Value} {d : DataW H} {ps : List MemPlace} (hv : Value.okWide Try.prog w .any base 31 v) (h : DataW.Trod enc Try.prog w 0 (fun _ => true) true 31 v d ps) :
    ∃ (a : Option Addr) (c : Nat) (ks : List Rw) (us : List R4), v = .slice a ks.length c ∧ ks.length ≤ maxLen ∧ RwsV w ks a us := by
  obtain ⟨a, l, c, rfl⟩ := Go.WideShapes.okWide_slice Try.underlying31 hv
  obtain ⟨fuel, hf⟩ := h
  exact open_raws hf
end Sp
end Go.Proofs.Ytmhihnpimanhfaa
namespace Go.Proofs.Ytmhihnpimanhfaa
namespace Sp
theorem own : ownKnob Try.prog.godebug = none := by kernel_rfl
theorem laidOut : laidOutB Try.prog = true := by kernel_rfl
end Sp
end Go.Proofs.Ytmhihnpimanhfaa
