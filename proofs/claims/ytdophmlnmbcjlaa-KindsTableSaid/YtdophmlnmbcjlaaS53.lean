/- KindsNumbers: its walk. Written by gen_jnum.py. -/
import Derived.Test.YtdophmlnmbcjlaaS48
import Derived.Test.YtdophmlnmbcjlaaS52
namespace Go.Proofs.Ytdophmlnmbcjlaa
open Go.RowKit
namespace Sp
open Sc
set_option maxRecDepth 100000
/-- The test of KindsNumbers, in pieces. -/
structure NumJ (f a b : Nat) (T : List Kz) (N : List NN) (m : Nat) (ids : List Nat) (x y : Nat × Nat × List Kz) : Prop where
  b1 : builtinB (uo8.getD (f % 6) []) = true
  b2 : builtinB (uw8.getD (f % 5) []) = true
  op : OpL T N
  op2 : OpL x.2.2 N
  la : (m :: ids).getD a 0 < T.length
  la2 : (m :: ids).getD a 0 < x.2.2.length
  lb2 : (m :: ids).getD b 0 < x.2.2.length
  of1 : ofJ T N (uo8.getD (f % 6) []) [(m :: ids).getD a 0] = x
  of2 : ofJ x.2.2 N (uw8.getD (f % 5) []) [(m :: ids).getD a 0, (m :: ids).getD b 0] = y
  e1 : un8.getD a false = decide (x.2.1 = 0)
  e2 : (un8.getD a false && un8.getD b false) = decide (y.2.1 = 0)
  x17 : x.2.1 = 0 ∨ x.2.1 = 17
  xm : x.2.1 = 0 → x.1 = m
  y17 : y.2.1 = 0 ∨ y.2.1 = 17
  ym : y.2.1 = 0 → y.1 = m
theorem us8_parts : ∃ T N ids r m, newK us8 = (0, ⟨T, N, [([102], ids, r)], m⟩) ∧ fitS us8 = true ∧ ids.length = 4 ∧ ∀ f a b, f < 30 → a < 5 → b < 5 → ∃ x y, NumJ f a b T N m ids x y := by
  obtain ⟨p1, p2, p3, p4, p5, p6⟩ := us8_pure
  refine ⟨ut8.T, ut8.N, ug8.2.1, ug8.2.2, ut8.m, Prod.ext p1 ?_, p3, p6, fun f a b hf ha hb => ?_⟩
  · have e : ut8.G = [([102], ug8.2.1, ug8.2.2)] := by
      match hg : ut8.G, p4 with
      | [x], _ =>
        have : ug8 = x := by unfold ug8; rw [hg]; rfl
        rw [← this, ← p5]
    show ut8 = _
    rw [← e]
  · have h := numB_at hf ha hb
    unfold numB at h
    simp only [Bool.and_eq_true, beq_iff_eq, decide_eq_true_eq, Bool.or_eq_true, Bool.not_eq_true', decide_eq_false_iff_not] at h
    obtain ⟨⟨⟨⟨⟨⟨⟨⟨⟨⟨⟨a1, a2⟩, a3⟩, a4⟩, a5⟩, a6⟩, a7⟩, a8⟩, a9⟩, b1⟩, b2⟩, b3⟩ := h
    exact ⟨_, _, a1, a2, opB_is p2, opB_is a3, a4, a5, a6, rfl, rfl, a7, a8, a9, fun e => b1.resolve_left (fun h => h e), b2, fun e => b3.resolve_left (fun h => h e)⟩
theorem kept_of {B : Nat} {w w' : World} {tb rb nb mb sb m : Nat} {ty nu : Value} {T : List Kz} {N : List NN} {G : List GN} {vs : List Value} (h : StV B w tb rb nb mb sb m ty nu T N G vs) (hk : Keeps (Own tb rb nb) w w') {g : Nat} {cs : Array Value} {t : TypeId} (hg : w.heap[g]? = some (.cells cs t (0, 0))) (ht : t = 3 ∨ t = 4) : w'.heap[g]? = some (.cells cs t (0, 0)) :=
  (hk.block g (Array.getElem?_eq_some_iff.1 hg).1 (h.tab.other hg (by rcases ht with rfl | rfl <;> decide) (by rcases ht with rfl | rfl <;> decide))).trans hg
theorem four_list {α : Type} : ∀ {l : List α}, l.length = 4 → ∃ a b c d, l = [a, b, c, d]
  | [a, b, c, d], _ => ⟨a, b, c, d, rfl⟩
theorem us8_short : ShortS us8 := by
  refine ⟨fun i h => ?_, ⟨rfl, rfl⟩, fun g h => ?_⟩
  · match i, h with
    | 0, _ => exact ⟨(by show 1 ≤ 1000; omega), rfl, rfl⟩
  · obtain rfl := List.mem_singleton.1 h
    refine ⟨by decide, by decide, fun t ht => ?_, rfl, rfl⟩
    simp only [List.mem_cons, List.not_mem_nil, or_false] at ht
    rcases ht with rfl | rfl | rfl | rfl <;> exact ⟨by kernel_rfl, by kernel_rfl⟩
set_option maxHeartbeats 30000000 in
theorem KindsNumbers_any (x y z : Int) (w : World) (h1 : -9223372036854775808 ≤ x) (h2 : x ≤ 9223372036854775807) (h3 : -9223372036854775808 ≤ y) (h4 : y ≤ 9223372036854775807) (h5 : -9223372036854775808 ≤ z) (h6 : z ≤ 9223372036854775807) :
    Calls Try.prog 4 #[.int .i64 x, .int .i64 y, .int .i64 z] w fun e w' => e = .returned (.bool true) ∧ Below w.heap.size w w' := by
  obtain ⟨f, hf30, hr6, hr5⟩ : ∃ f : Nat, f < 30 ∧ x % 6 = (f % 6 : Nat) ∧ x % 5 = (f % 5 : Nat) := ⟨(x % 30).toNat, by omega, by omega, by omega⟩
  obtain ⟨a, ha, ha5⟩ : ∃ q : Nat, y % 5 = q ∧ q < 5 := ⟨(y % 5).toNat, by omega, by omega⟩
  obtain ⟨b, hb, hb5⟩ : ∃ q : Nat, z % 5 = q ∧ q < 5 := ⟨(z % 5).toNat, by omega, by omega⟩
  obtain ⟨T, N, ids, r, m, hn, hfit, hid, hC⟩ := us8_parts
  obtain ⟨i0, i1, i2, i3, rfl⟩ := four_list hid
  obtain ⟨⟨x1, x2, T2⟩, ⟨y1, y2, T3⟩, hJ⟩ := hC f a b hf30 ha5 hb5
  have hf6 : f % 6 < 6 := Nat.mod_lt _ (by omega)
  have hf5 : f % 5 < 5 := Nat.mod_lt _ (by omega)
  obtain ⟨n1, hn1⟩ : ∃ n1, uo8.getD (f % 6) [] = n1 := ⟨_, rfl⟩
  obtain ⟨n2, hn2⟩ : ∃ n2, uw8.getD (f % 5) [] = n2 := ⟨_, rfl⟩
  obtain ⟨ia, hia⟩ : ∃ ia, [m, i0, i1, i2, i3].getD a 0 = ia := ⟨_, rfl⟩
  obtain ⟨ib, hib⟩ : ∃ ib, [m, i0, i1, i2, i3].getD b 0 = ib := ⟨_, rfl⟩
  obtain ⟨na, hna⟩ : ∃ na, un8.getD a false = na := ⟨_, rfl⟩
  obtain ⟨nb', hnb'⟩ : ∃ nb', un8.getD b false = nb' := ⟨_, rfl⟩
  have hla := hJ.la; have hla2 := hJ.la2; have hlb2 := hJ.lb2; have hof1 := hJ.of1; have hof2 := hJ.of2; have he1 := hJ.e1; have he2 := hJ.e2; have hx17 := hJ.x17; have hxm := hJ.xm; have hy17 := hJ.y17; have hym := hJ.ym; have hb1 := hJ.b1; have hb2 := hJ.b2; have hop := hJ.op; have hop2 := hJ.op2
  rw [hia] at hla hla2 hof1 hof2
  rw [hib] at hlb2 hof2
  rw [hna] at he1 he2
  rw [hnb'] at he2
  rw [hn1] at hof1 hb1
  rw [hn2] at hof2 hb2
  dsimp only at hla2 hlb2 hof2 he1 he2 hx17 hxm hy17 hym hop2
  have HR6 := Lib.hid hr6; have HR5 := Lib.hid hr5; have HA := Lib.hid ha; have HBQ := Lib.hid hb; have HN := Lib.hid hn
  have HIA := Lib.hid hia; have HIB := Lib.hid hib; have HNA := Lib.hid hna; have HNB := Lib.hid hnb'; have HN1 := Lib.hid hn1; have HN2 := Lib.hid hn2
  have HLA := Lib.hid hla; have HLA2 := Lib.hid hla2; have HLB2 := Lib.hid hlb2; have HOF1 := Lib.hid hof1; have HOF2 := Lib.hid hof2; have HE1 := Lib.hid he1; have HE2 := Lib.hid he2; have HX17 := Lib.hid hx17; have HXM := Lib.hid hxm; have HY17 := Lib.hid hy17; have HYM := Lib.hid hym; have HB1 := Lib.hid hb1; have HB2 := Lib.hid hb2; have HOP := Lib.hid hop; have HOP2 := Lib.hid hop2; have HFIT := Lib.hid hfit
  clear hr6 hr5 ha hb hn hia hib hna hnb' hn1 hn2 hla hla2 hlb2 hof1 hof2 he1 he2 hx17 hxm hy17 hym hb1 hb2 hop hop2 hfit hJ hC hid hf30
  go_enter Try.func4, Try.ntmps4
  go_upto_region 5 with (go_at_call 9; (with_reducible refine (known8_any _).mono ?_); rintro e w1 ⟨rfl, x1⟩; have hz1 := x1.size; have HX1 := Lib.hid x1; clear x1)
  obtain ⟨W2, hW2⟩ : ∃ W2, W2 = ((((((w1.alloc (.cells #[.int .i64 3, .string ⟨#[]⟩, .slice none 0 0, .slice none 0 0] 30)).alloc (.cells #[.string ⟨#[78]⟩, .int .i64 2, .string ⟨#[]⟩, .slice none 0 0, .slice none 0 0] 44)).alloc (.cells #[.int .i64 3, .string ⟨#[]⟩, .slice none 0 0, .slice none 0 0] 30)).alloc (.cells #[.int .i64 1, .string ⟨#[]⟩, .slice none 0 0, .slice none 0 0, .int .i64 3, .string ⟨#[]⟩, .slice none 0 0, .slice none 0 0, .int .i64 4, .string ⟨#[]⟩, .slice none 0 0, .slice (some ⟨w1.heap.size + 1 + 1, 0, none⟩) 1 1, .int .i64 9, .string ⟨#[78]⟩, .slice none 0 0, .slice none 0 0] 30)).alloc (.cells #[.string ⟨#[102]⟩, .slice (some ⟨w1.heap.size + 1 + 1 + 1, 0, none⟩) 4 4, .int .i64 3, .string ⟨#[]⟩, .slice none 0 0, .slice none 0 0] 46)).alloc (.cells #[.int .i64 2, .string ⟨#[]⟩, .slice none 0 0, .slice none 0 0, .slice (some ⟨w1.heap.size + 1, 0, none⟩) 1 1, .slice (some ⟨w1.heap.size + 1 + 1 + 1 + 1, 0, none⟩) 1 1] 34)) := ⟨_, rfl⟩
  have q := made (l := [_, _, _, _, _, _]) hW2
  have hz2 : w1.heap.size + 6 ≤ W2.heap.size := by rw [hW2]; simp
  have hb2 : Below w1.heap.size w1 W2 := by rw [hW2]; repeat first | exact Below.refl _ _ | refine Below.alloc ?_ (by simp <;> omega) _
  obtain ⟨⟨s0, s1, s2, s3, s4, s5⟩, -⟩ := six_blkF (q 5 _ rfl)
  have hsg : SgV W2 (Any W2) ⟨[102], [.mk 1 [] [] [], .mk 3 [] [] [], .mk 4 [] [] [.mk 3 [] [] []], .mk 9 [78] [] []], .mk 3 [] [] []⟩ ([102], ⟨(some ⟨w1.heap.size + 1 + 1 + 1, 0, none⟩), 4, 4, ⟨3, ⟨#[]⟩, none, 0, 0, none, 0, 0⟩⟩) := by
    refine ⟨rfl, rfl, ⟨[⟨1, ⟨#[]⟩, none, 0, 0, none, 0, 0⟩, ⟨3, ⟨#[]⟩, none, 0, 0, none, 0, 0⟩, ⟨4, ⟨#[]⟩, none, 0, 0, (some ⟨w1.heap.size + 1 + 1, 0, none⟩), 1, 1⟩, ⟨9, ⟨#[78]⟩, none, 0, 0, none, 0, 0⟩], rfl, RowV.blk (q 3 _ rfl) rfl (cells4_len _), fun i h h' => ?_⟩, TzV.leaf _ _ 3 []⟩
    match i, h with
    | 0, _ => exact TzV.leaf _ _ 1 []
    | 1, _ => exact TzV.leaf _ _ 3 []
    | 2, _ => exact TzV.kid (c := ⟨3, ⟨#[]⟩, none, 0, 0, none, 0, 0⟩) 4 (q 2 _ rfl) (TzV.leaf _ _ 3 [])
    | 3, _ => exact TzV.leaf _ _ 9 [78]
  have CN := new_at (w := W2) us8 1 1 (SzV.build (TzV.leaf _ _ 2 []) (NmsV.one [78] (q 1 _ rfl) (TzV.leaf _ _ 2 [])) (SgsV.one (x := ([102], ⟨(some ⟨w1.heap.size + 1 + 1 + 1, 0, none⟩), 4, 4, ⟨3, ⟨#[]⟩, none, 0, 0, none, 0, 0⟩⟩)) (q 4 _ rfl) hsg)) rfl HFIT.out us8_short ⟨by decide, by decide⟩ HN.out
  have HW2 := Lib.hid hW2; have HBW2 := Lib.hid (HX1.out.trans (hb2.mono hz1)); have HCN := Lib.hid CN
  clear hW2 hb2 q CN hsg
  rw [← HW2.out]
  clear HW2
  go_upto_region 8 with (go_at_call 10; (refine HCN.out.mono ?_); rintro e w3 ⟨tb, rb, nb, mb, sb, ty, nu, vs, rfl, s3, x3⟩; have HS3 := Lib.hid s3; have hz3 := x3.size; have HX3 := Lib.hid x3; clear s3 x3)
  clear s0 s1 s2 s3 s4 s5 HCN
  have CS := tsig_in 0 w3 tb rb nb mb sb m ty nu T [([102], [i0, i1, i2, i3], r)] vs HS3.out.tab HS3.out.sgs (by simp) (fun j hj _ => by simp at hj; exact hj) (by simp) (by simp)
  simp only [List.getElem_cons_zero] at CS
  have HCS := Lib.hid CS
  clear CS
  go_upto_region 9 with (go_at_call 16; (refine HCS.out.mono ?_); rintro e w4 ⟨ra, rc, rfl, r4, x4⟩; have hz4 := x4.size; have HR4 := Lib.hid r4; have HX4 := Lib.hid x4; have HS4 := Lib.hid (HS3.out.below x4); clear r4 x4)
  clear HCS HS3
  go_upto_region 10 with (first | (go_at_call 12; (with_reducible refine (within8_is _ _ _ _ (by omega) (by omega) h3 h4 HA.out).mono ?_); rintro e w2 ⟨rfl, rfl⟩) | (go_at_call 12; (with_reducible refine (within8_is _ _ _ _ (by omega) (by omega) h5 h6 HBQ.out).mono ?_); rintro e w2 ⟨rfl, rfl⟩))
  obtain ⟨g, o, rfl, hg, c0⟩ := idsL_cell HR4.out (i := 0) (by simp)
  obtain ⟨g', o', e', -, c1⟩ := idsL_cell HR4.out (i := 1) (by simp)
  obtain ⟨rfl, rfl⟩ : g = g' ∧ o = o' := by simpa using e'
  clear e'
  obtain ⟨g', o', e', -, c2⟩ := idsL_cell HR4.out (i := 2) (by simp)
  obtain ⟨rfl, rfl⟩ : g = g' ∧ o = o' := by simpa using e'
  clear e'
  obtain ⟨g', o', e', -, c3⟩ := idsL_cell HR4.out (i := 3) (by simp)
  obtain ⟨rfl, rfl⟩ : g = g' ∧ o = o' := by simpa using e'
  clear e'
  rw [Nat.add_zero] at c0
  simp only [List.getD_cons_zero, List.getD_cons_succ] at c0 c1 c2 c3
  have d0 : w4.drew.cell? ⟨g, o, none⟩ = some (.int .i64 (i0 : Nat)) := c0
  have d1 : w4.drew.cell? ⟨g, o + 1, none⟩ = some (.int .i64 (i1 : Nat)) := c1
  have d2 : w4.drew.cell? ⟨g, o + 2, none⟩ = some (.int .i64 (i2 : Nat)) := c2
  have d3 : w4.drew.cell? ⟨g, o + 3, none⟩ = some (.int .i64 (i3 : Nat)) := c3
  have hg4 : g < w4.heap.size := hg.2
  have haz : (a : Int) < 5 := by omega
  have hbz : (b : Int) < 5 := by omega
  go_region_held3 (fun w' => w'.cell? ⟨g, o, none⟩ = some (.int .i64 (i0 : Nat)) ∧ w'.cell? ⟨g, o + 1, none⟩ = some (.int .i64 (i1 : Nat)) ∧ w'.cell? ⟨g, o + 2, none⟩ = some (.int .i64 (i2 : Nat)) ∧ w'.cell? ⟨g, o + 3, none⟩ = some (.int .i64 (i3 : Nat))) (first | exact ⟨c0, c1, c2, c3⟩ | exact ⟨d0, d1, d2, d3⟩ | exact ⟨e0, e1, e2, e3⟩ | go_keep) (first
    | (go_at_call 17; (refine (HS4.out.below (Below.refl _ _).drew).main.mono ?_); rintro e w5 ⟨rfl, x5⟩; have e0 := (x5.cell (p := ⟨g, o, none⟩) hg4).trans d0; have e1 := (x5.cell (p := ⟨g, o + 1, none⟩) hg4).trans d1; have e2 := (x5.cell (p := ⟨g, o + 2, none⟩) hg4).trans d2; have e3 := (x5.cell (p := ⟨g, o + 3, none⟩) hg4).trans d3; have hz5 : w4.heap.size ≤ w5.heap.size := x5.size; have HX5 := Lib.hid (show Below w4.heap.size w4 w5 from (Below.refl _ _).drew.trans x5); clear x5))
  clear c0 c1 c2 c3 d0 d1 d2 d3 e0 e1 e2 e3 hg hg4 HR4
  go_upto_region 12 with fail
  obtain ⟨W7, hW7⟩ : ∃ W7, W7 = (w5.alloc (.cells #[.int .i64 (m : Nat), .int .i64 (i0 : Nat), .int .i64 (i1 : Nat), .int .i64 (i2 : Nat), .int .i64 (i3 : Nat)] 3)).alloc (.cells #[.bool true, .bool false, .bool false, .bool false, .bool true] 4) := ⟨_, rfl⟩
  have q := made (l := [_, _]) hW7
  have hi7 : W7.heap[w5.heap.size]? = some (.cells #[.int .i64 (m : Nat), .int .i64 (i0 : Nat), .int .i64 (i1 : Nat), .int .i64 (i2 : Nat), .int .i64 (i3 : Nat)] 3 (0, 0)) := q 0 _ rfl
  have hn7 : W7.heap[w5.heap.size + 1]? = some (.cells #[.bool true, .bool false, .bool false, .bool false, .bool true] 4 (0, 0)) := q 1 _ rfl
  have hz7 : w5.heap.size + 2 ≤ W7.heap.size := by rw [hW7]; simp
  have hb7 : Below w5.heap.size w5 W7 := by rw [hW7]; exact ((Below.refl _ _).alloc (Nat.le_refl _) _).alloc (by simp) _
  rw [← hW7]
  have HB7 := Lib.hid hb7; have HI7 := Lib.hid hi7; have HN7 := Lib.hid hn7
  clear hW7 q hb7 hi7 hn7
  obtain ⟨W8, hW8⟩ : ∃ W8, W8 = W7.alloc (.cells #[.string ⟨#[105, 56]⟩, .string ⟨#[105, 49, 54]⟩, .string ⟨#[105, 51, 50]⟩, .string ⟨#[117, 56]⟩, .string ⟨#[117, 49, 54]⟩, .string ⟨#[117, 51, 50]⟩] 9) := ⟨_, rfl⟩
  have hb8 : Below W7.heap.size W7 W8 := by rw [hW8]; exact (Below.refl _ _).alloc (Nat.le_refl _) _
  have n8 : W8.cell? ⟨W7.heap.size, f % 6, none⟩ = some (.string ⟨(uo8.getD (f % 6) []).toArray⟩) := cell_blk (cs := nmsV uo8) (by rw [hW8]; exact heap_alloc_new W7 _) (nmsV_at hf6)
  rw [HN1.out] at n8
  have hf6z : ((f % 6 : Nat) : Int) < 6 := by omega
  have hf5z : ((f % 5 : Nat) : Int) < 5 := by omega
  obtain ⟨f6, hf6e⟩ : ∃ f6, f6 = f % 6 := ⟨_, rfl⟩
  obtain ⟨f5, hf5e⟩ : ∃ f5, f5 = f % 5 := ⟨_, rfl⟩
  rw [← hf6e] at n8 hf6z HR6
  rw [← hf5e] at hf5z HR5
  have HF5 := Lib.hid hf5e
  have HW8 := Lib.hid hW8; have HB8 := Lib.hid hb8
  have hz8 := hb8.size
  clear hW8 hb8 hf6e hf5e
  go_upto_region 13 with (rw [← HW8.out]; go_at_call 12; (with_reducible refine (within8_is _ _ _ _ (by omega) (by omega) h1 h2 HR6.out).mono ?_); rintro e w2 ⟨rfl, rfl⟩)
  clear n8
  obtain ⟨W9, hW9⟩ : ∃ W9, W9 = W8.alloc (.cells #[.string ⟨#[97, 100, 100]⟩, .string ⟨#[115, 117, 98]⟩, .string ⟨#[109, 117, 108]⟩, .string ⟨#[115, 104, 108]⟩, .string ⟨#[115, 104, 114]⟩] 9) := ⟨_, rfl⟩
  have hb9 : Below W8.heap.size W8 W9 := by rw [hW9]; exact (Below.refl _ _).alloc (Nat.le_refl _) _
  have n9 : W9.cell? ⟨W8.heap.size, f5, none⟩ = some (.string ⟨(uw8.getD (f % 5) []).toArray⟩) := by rw [HF5.out]; exact cell_blk (cs := nmsV uw8) (by rw [hW9]; exact heap_alloc_new W8 _) (nmsV_at hf5)
  rw [HN2.out] at n9
  have HW9 := Lib.hid hW9; have HB9 := Lib.hid hb9
  have hz9 := hb9.size
  clear hW9 hb9
  go_upto_region 14 with (rw [← HW9.out]; go_at_call 12; (with_reducible refine (within8_is _ _ _ _ (by omega) (by omega) h1 h2 HR5.out).mono ?_); rintro e w2 ⟨rfl, rfl⟩)
  clear n9
  have HB79 := Lib.hid (HB8.out.trans (HB9.out.mono hz8))
  have HI9 := Lib.hid ((HB79.out.block _ (by omega)).trans HI7.out); have HN9 := Lib.hid ((HB79.out.block _ (by omega)).trans HN7.out)
  have HB49 := Lib.hid (HX5.out.trans ((HB7.out.mono (by omega)).trans (HB79.out.mono (by omega))))
  have HS9 := Lib.hid (HS4.out.below HB49.out)
  have hz49 := HB49.out.size
  have ca9 : W9.cell? ⟨w5.heap.size, a, none⟩ = some (.int .i64 (ia : Nat)) := by
    refine cell_blk (cs := [m, i0, i1, i2, i3].map fun (j : Nat) => Value.int .i64 (j : Nat)) HI9.out ?_
    rw [List.getElem?_map, List.getElem?_eq_getElem (by simpa using ha5), ← HIA.out, List.getD, List.getElem?_eq_getElem (by simpa using ha5)]
    rfl
  have hof : ∀ (s : List UInt8) (l : List Nat) (T0 : List Kz) (rbx nbx : Nat) (tyx nux : Value) (w0 W : World) (g : Nat) (r9 : Nat × Nat × List Kz), builtinB s = true → StV W2.heap.size w0 tb rbx nbx mb sb m tyx nux T0 N [([102], [i0, i1, i2, i3], r)] vs → W2.heap.size ≤ w0.heap.size → OpL T0 N → (∀ j ∈ l, j < T0.length) → ofJ T0 N s l = r9 → Below w0.heap.size w0 W → W.heap[g]? = some (.cells (l.map fun (j : Nat) => Value.int .i64 (j : Nat)).toArray 3 (0, 0)) → Calls Try.prog 13 #[.pointer (some ⟨tb, 0, none⟩), .string ⟨s.toArray⟩, .slice (some ⟨g, 0, none⟩) l.length l.length] W (MadeJ W2.heap.size w0 tb rbx nbx mb sb m N [([102], [i0, i1, i2, i3], r)] vs r9) := fun s l T0 rbx nbx tyx nux w0 W g r9 hs hst hb ho hl hr hW hg => by
    have h := Of_any s hs l W W2.heap.size tb rbx nbx mb sb m tyx nux T0 N _ vs (hst.below hW) (Nat.le_trans hb hW.size) ho hl (some ⟨g, 0, none⟩) l.length (idsL_blk hg)
    rw [hr] at h
    exact h.mono fun e w' hq => hq.after hb hW
  have HOF := Lib.hid hof
  clear hof
  go_upto_region 15 with (go_at_call 13; (refine (HOF.out n1 [ia] T rb nb ty nu W9 _ _ _ HB1.out HS9.out (by omega) HOP.out (fun j hj => by rw [List.mem_singleton.1 hj]; exact HLA.out) HOF1.out ((Below.refl _ _).alloc (Nat.le_refl _) _) (heap_alloc_new _ _)).mono ?_); rintro e w10 ⟨rb10, nb10, ty10, nu10, rfl, s10, x10, k10⟩; have hi10 := kept_of HS9.out k10 HI9.out (.inl rfl); have hn10 := kept_of HS9.out k10 HN9.out (.inr rfl); have hz10 := x10.size; have hz910 := k10.size; have HI10 := Lib.hid hi10; have HN10 := Lib.hid hn10; have HS10 := Lib.hid s10; have HX10 := Lib.hid x10; clear s10 x10 k10 hi10 hn10)
  clear ca9
  have ca : w10.cell? ⟨w5.heap.size, a, none⟩ = some (.int .i64 (ia : Nat)) := by
    refine cell_blk (cs := [m, i0, i1, i2, i3].map fun (j : Nat) => Value.int .i64 (j : Nat)) HI10.out ?_
    rw [List.getElem?_map, List.getElem?_eq_getElem (by simpa using ha5), ← HIA.out, List.getD, List.getElem?_eq_getElem (by simpa using ha5)]
    rfl
  have cb : w10.cell? ⟨w5.heap.size, b, none⟩ = some (.int .i64 (ib : Nat)) := by
    refine cell_blk (cs := [m, i0, i1, i2, i3].map fun (j : Nat) => Value.int .i64 (j : Nat)) HI10.out ?_
    rw [List.getElem?_map, List.getElem?_eq_getElem (by simpa using hb5), ← HIB.out, List.getD, List.getElem?_eq_getElem (by simpa using hb5)]
    rfl
  have cad : w10.drew.cell? ⟨w5.heap.size, a, none⟩ = some (.int .i64 (ia : Nat)) := ca
  have cbd : w10.drew.cell? ⟨w5.heap.size, b, none⟩ = some (.int .i64 (ib : Nat)) := cb
  go_region_held3 (fun w' => w'.cell? ⟨w5.heap.size, a, none⟩ = some (.int .i64 (ia : Nat)) ∧ w'.cell? ⟨w5.heap.size, b, none⟩ = some (.int .i64 (ib : Nat))) (first | exact ⟨ca, cb⟩ | exact ⟨cad, cbd⟩ | exact ⟨f0, f1⟩ | go_keep) (first
    | (go_at_call 13; (refine (HOF.out n2 [ia, ib] T2 rb10 nb10 ty10 nu10 w10 _ _ _ HB2.out HS10.out (by omega) HOP2.out (fun j hj => by simp only [List.mem_cons, List.not_mem_nil, or_false] at hj; rcases hj with rfl | rfl; exact HLA2.out; exact HLB2.out) HOF2.out ((Below.refl _ _).drew.alloc (Nat.le_refl _) _) (heap_alloc_new _ _)).mono ?_); rintro e w11 ⟨rb11, nb11, ty11, nu11, rfl, s11, x11, k11⟩; have hi11 := kept_of HS10.out k11 HI10.out (.inl rfl); have hn11 := kept_of HS10.out k11 HN10.out (.inr rfl); have f0 := (World.cell?_of_block (a := ⟨w5.heap.size, a, none⟩) (hi11.trans HI10.out.symm)).trans ca; have f1 := (World.cell?_of_block (a := ⟨w5.heap.size, b, none⟩) (hi11.trans HI10.out.symm)).trans cb; have HN11 := Lib.hid hn11; have HS11 := Lib.hid s11; have HX11 := Lib.hid x11; have hz11 := x11.size; clear s11 x11 k11 hi11 hn11))
  clear f0 f1 ca cb cad cbd
  have na11 : w11.cell? ⟨w5.heap.size + 1, a, none⟩ = some (.bool na) := by
    refine cell_blk (cs := un8.map Value.bool) HN11.out ?_
    rw [List.getElem?_map, List.getElem?_eq_getElem (by exact ha5), ← HNA.out, List.getD, List.getElem?_eq_getElem (by exact ha5)]
    rfl
  have nb11 : w11.cell? ⟨w5.heap.size + 1, b, none⟩ = some (.bool nb') := by
    refine cell_blk (cs := un8.map Value.bool) HN11.out ?_
    rw [List.getElem?_map, List.getElem?_eq_getElem (by exact hb5), ← HNB.out, List.getD, List.getElem?_eq_getElem (by exact hb5)]
    rfl
  have hwW2 := HBW2.out.size
  have hB : Below w.heap.size w w11 := HBW2.out.trans ((HX3.out.mono (by omega)).trans ((HX4.out.mono (by omega)).trans ((HB49.out.mono (by omega)).trans ((HX10.out.mono (by omega)).trans (HX11.out.mono (by omega))))))
  have HB := Lib.hid hB
  have HE1' := HE1.out; have HE2' := HE2.out
  clear hB HBW2 HX3 HX4 HB49 HX10 HX11
  cases na with
  | false =>
    obtain rfl : x2 = 17 := HX17.out.resolve_left (fun e => by rw [decide_eq_true e] at HE1'; cases HE1')
    obtain rfl : y2 = 17 := HY17.out.resolve_left (fun e => by rw [decide_eq_true e] at HE2'; cases HE2')
    clear HE1' HE2'
    go_wp2
    go_ret
    exact ⟨rfl, HB.out⟩
  | true =>
    have hx0 : x2 = 0 := of_decide_eq_true HE1'.symm
    obtain rfl := HXM.out hx0
    subst hx0
    cases nb' with
    | false =>
      obtain rfl : y2 = 17 := HY17.out.resolve_left (fun e => by rw [decide_eq_true e] at HE2'; cases HE2')
      clear HE1' HE2'
      go_wp2_with (go_at_call 17; (refine HS11.out.main.mono ?_); rintro e w12 ⟨rfl, x12⟩; have HX12 := Lib.hid x12; clear x12)
      go_ret
      exact ⟨rfl, HB.out.trans (HX12.out.mono HB.out.size)⟩
    | true =>
      have hy0 : y2 = 0 := of_decide_eq_true HE2'.symm
      obtain rfl := HYM.out hy0
      subst hy0
      clear HE1' HE2'
      go_wp2_with (first | (go_at_call 17; (refine HS11.out.main.mono ?_); rintro e w12 ⟨rfl, x12⟩; have HX12 := Lib.hid x12; clear x12) | (go_at_call 17; (refine (HS11.out.below HX12.out).main.mono ?_); rintro e w13 ⟨rfl, x13⟩; have HX13 := Lib.hid x13; clear x13))
      go_ret
      exact ⟨rfl, HB.out.trans ((HX12.out.mono HB.out.size).trans (HX13.out.mono (Nat.le_trans HB.out.size HX12.out.size)))⟩
end Sp
end Go.Proofs.Ytdophmlnmbcjlaa
