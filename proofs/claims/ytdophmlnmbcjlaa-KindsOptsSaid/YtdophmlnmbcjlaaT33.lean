/- Tree: lists, maps, Opts. Written by gen_wtree.py. -/
import Derived.Test.YtdophmlnmbcjlaaT27
namespace Go.Proofs.Ytdophmlnmbcjlaa
open Go.RowKit
namespace Sp
open Sc
theorem kid0_any (r : Rw) (c : R4) (w : World) (hV : RwV w r c) :
    Calls Try.prog 31 #[.agg #[.int .i64 c.k, .int .i64 c.n, .slice c.an c.ln c.cn, .slice c.ak c.lk c.ck], .int .i64 0] w (KidP (kidR r 0) w) := kid_any r c 0 w (by decide) hV
set_option maxRecDepth 100000 in
set_option maxHeartbeats 8000000 in
theorem tree_3k (D d : Nat) (hD : D = d + 1) (ih : TreeC d) (hd : d ≤ 1000) (hd1 : 1 ≤ d) (kd n : Int) (ns : List Int) (ks : List Rw) (c : R4) (names : List (List UInt8)) (na : Option Addr) (nc : Nat) (w : World) (hV : RwV w (.mk kd n ns ks) c) (hnl : names.length ≤ 1000) (hnm : RowV w (Any w) na 1 (names.map fun n => [str n])) (hk0 : kd % 9 = 3) :
    Calls Try.prog 19 #[.agg #[.int .i64 c.k, .int .i64 c.n, .slice c.an c.ln c.cn, .slice c.ak c.lk c.ck], .int .i64 D, .slice na names.length nc] w (TreeP (treeR names D (.mk kd n ns ks)) w) := by
  have hT : topK names.length (d + 1) kd = 4 := by unfold topK; rw [hk0]; exact if_neg (by omega)
  rw [hD, treeR_kid names d kd n ns ks 4 hT (by omega), if_neg (by omega), ← hD]
  have hV0 := hV
  cases hV with
  | mk _ _ _ _ an cn ak ck us hk hn hii hln hlk hl ha hb hu =>
    obtain ⟨hkl, hkh⟩ := hk
    have hdz : ¬ (D : Int) ≤ 1 := by omega
    have hdm : (D : Int) - 1 = (d : Int) := by omega
    have hdw : IntKind.i64.wrap ((D : Int) - 1) = (d : Int) := by rw [IntKind.wrap_i64]; omega
    have HK0 := Lib.hid hk0; have HV := Lib.hid hV0; have HNM := Lib.hid hnm; have HIH := Lib.hid ih; have HD := Lib.hid hD
    skip
    clear hu hb ha hii hl hT hk0 hnm hV0 ih hD
    go_enter Try.func19, Try.ntmps19
    go_wp2_with (first
      | (go_at_call 30; (with_reducible refine (within3_is _ _ _ _ (by omega) (by omega) hkl hkh HK0.out).mono ?_); rintro e w2 ⟨rfl, hw⟩; have hz2 : w2.heap.size = w.heap.size + 2 := (by rw [← hw]; simp); have hb2 : Below w.heap.size w w2 := (by rw [← hw]; exact ((Below.refl _ _).alloc (Nat.le_refl _) _).alloc (by simp) _); have hr2 : w2.heap[w.heap.size]? = some (.cells #[.int .i64 kd, .int .i64 n, .slice an ns.length cn, .slice ak ks.length ck] 54 (0, 0)) := (by rw [← hw, blk_if, if_neg (by simp), blk_if, if_pos rfl]); have ho2 : w2.heap[w.heap.size + 1]? = some (.cells #[.int .i64 0, .string ⟨#[]⟩, .slice none 0 0, .slice none 0 0] 30 (0, 0)) := (by rw [← hw, blk_if, if_pos (by simp)]); obtain ⟨⟨r0, r1, r2, r3⟩, -⟩ := four_blk hr2; obtain ⟨⟨o0, o1, o2, o3⟩, ⟨f0, f1, f2, f3⟩⟩ := four_blk ho2; have HB2 := Lib.hid hb2; have HR2 := Lib.hid hr2; have HO2 := Lib.hid ho2; clear hw hb2 hr2 ho2)
      | (go_at_call 31; (with_reducible refine (kid0_any (.mk kd n ns ks) ⟨kd, n, an, ns.length, cn, ak, ks.length, ck⟩ _ (HV.out.later (HB2.out.alloc (by omega) (.cells #[.int .i64 4, .string ⟨#[]⟩, .slice none 0 0, .slice none 0 0] 30)))).mono ?_); rintro e w3 ⟨rc, rfl, hrc, hb3⟩; have hz3 := hb3.size; simp at hz3; have hbw : Below w.heap.size w w3 := (HB2.out.alloc (by omega) _).trans (hb3.mono (by simp; omega)); have ht3 : w3.heap[w.heap.size + 2]? = some (.cells #[.int .i64 4, .string ⟨#[]⟩, .slice none 0 0, .slice none 0 0] 30 (0, 0)) := (hb3.block _ (by simp; omega)).trans (by rw [blk_if, if_pos (by omega)]); have ho3 : w3.heap[w.heap.size + 1]? = some (.cells #[.int .i64 0, .string ⟨#[]⟩, .slice none 0 0, .slice none 0 0] 30 (0, 0)) := (hb3.block _ (by simp; omega)).trans (by rw [blk_if, if_neg (by omega)]; exact HO2.out); have HRC := Lib.hid hrc; have HB3 := Lib.hid hbw; have HT3 := Lib.hid ht3; have HO3 := Lib.hid ho3; obtain ⟨rk, rn, ra1, ra2, ra3, ra4, ra5, ra6⟩ := rc; clear hrc hb3 hbw ht3 ho3)
      | (go_at_call 19; have CT := HIH.out _ _ names na nc w3 HRC.out (HNM.out.up HB3.out) hnl; (with_reducible refine CT.mono ?_); rintro e w4 ⟨xc, rfl, hxc, hb4⟩; have hz4 := hb4.size; have hbw : Below w.heap.size w w4 := HB3.out.trans (hb4.mono (by omega)); have ht4 : w4.heap[w.heap.size + 2]? = some (.cells #[.int .i64 4, .string ⟨#[]⟩, .slice none 0 0, .slice none 0 0] 30 (0, 0)) := (hb4.block _ (by omega)).trans HT3.out; have ho4 : w4.heap[w.heap.size + 1]? = some (.cells #[.int .i64 0, .string ⟨#[]⟩, .slice none 0 0, .slice none 0 0] 30 (0, 0)) := (hb4.block _ (by omega)).trans HO3.out; obtain ⟨⟨t0, t1, t2, t3⟩, ⟨y0, y1, y2, y3⟩⟩ := four_blk ht4; obtain ⟨⟨q0, q1, q2, q3⟩, ⟨x0, x1, x2, x3⟩⟩ := four_blk ho4; have hzw : w.heap.size + 2 < w4.heap.size := (by omega); have hzv : w.heap.size + 1 < w4.heap.size := (by omega); clear CT; have HXC := Lib.hid hxc; have HB4 := Lib.hid hbw; have HT4 := Lib.hid ht4; have HO4 := Lib.hid ho4; have hkk := hxc.kindZ; obtain ⟨xk, xn, xan, xln, xcn, xak, xlk, xck⟩ := xc; simp only at hkk; clear hkk; clear hxc hb4 hbw ht4 ho4))
    have hq6 : Only (w.heap.size + 2) w4 (w4.setCell ⟨w.heap.size + 2, 3, none⟩ (.slice (some ⟨w4.heap.size, 0, none⟩) 1 1)) := (Only.refl _ w4).setCell 3 _
    have hs1 := hq6.blk HO4.out (by omega)
    have hz6 : (w4.setCell ⟨w.heap.size + 2, 3, none⟩ (.slice (some ⟨w4.heap.size, 0, none⟩) 1 1)).heap.size = w4.heap.size := by simp
    have hPO := put4_only (w4.setCell ⟨w.heap.size + 2, 3, none⟩ (.slice (some ⟨w4.heap.size, 0, none⟩) 1 1)) (w.heap.size + 1) ⟨4, ⟨#[]⟩, none, 0, 0, some ⟨w4.heap.size, 0, none⟩, 1, 1⟩
    have hz7 := put4_size (w4.setCell ⟨w.heap.size + 2, 3, none⟩ (.slice (some ⟨w4.heap.size, 0, none⟩) 1 1)) (w.heap.size + 1) ⟨4, ⟨#[]⟩, none, 0, 0, some ⟨w4.heap.size, 0, none⟩, 1, 1⟩
    obtain ⟨⟨v0, v1, v2, v3⟩, -⟩ := four_blk (blk_allocZ (put4_at hs1 ⟨4, ⟨#[]⟩, none, 0, 0, some ⟨w4.heap.size, 0, none⟩, 1, 1⟩) (.cells #[.int .i64 xk, .string xn, .slice xan xln xcn, .slice xak xlk xck] 30))
    have hk1 : ((put4 (w4.setCell ⟨w.heap.size + 2, 3, none⟩ (.slice (some ⟨w4.heap.size, 0, none⟩) 1 1)) (w.heap.size + 1) ⟨4, ⟨#[]⟩, none, 0, 0, some ⟨w4.heap.size, 0, none⟩, 1, 1⟩).alloc (.cells #[.int .i64 xk, .string xn, .slice xan xln xcn, .slice xak xlk xck] 30)).heap[w4.heap.size]? = some (.cells #[.int .i64 xk, .string xn, .slice xan xln xcn, .slice xak xlk xck] 30 (0, 0)) := by rw [blk_if, if_pos (by omega)]
    have hb7 : Below w.heap.size w (put4 (w4.setCell ⟨w.heap.size + 2, 3, none⟩ (.slice (some ⟨w4.heap.size, 0, none⟩) 1 1)) (w.heap.size + 1) ⟨4, ⟨#[]⟩, none, 0, 0, some ⟨w4.heap.size, 0, none⟩, 1, 1⟩) := (HB4.out.trans (hq6.below (by omega) HB4.out.size)).trans (hPO.below (by omega) (by omega))
    have hbl : Below w.heap.size w ((put4 (w4.setCell ⟨w.heap.size + 2, 3, none⟩ (.slice (some ⟨w4.heap.size, 0, none⟩) 1 1)) (w.heap.size + 1) ⟨4, ⟨#[]⟩, none, 0, 0, some ⟨w4.heap.size, 0, none⟩, 1, 1⟩).alloc (.cells #[.int .i64 xk, .string xn, .slice xan xln xcn, .slice xak xlk xck] 30)) := hb7.alloc hb7.size _
    have hX : TzV ((put4 (w4.setCell ⟨w.heap.size + 2, 3, none⟩ (.slice (some ⟨w4.heap.size, 0, none⟩) 1 1)) (w.heap.size + 1) ⟨4, ⟨#[]⟩, none, 0, 0, some ⟨w4.heap.size, 0, none⟩, 1, 1⟩).alloc (.cells #[.int .i64 xk, .string xn, .slice xan xln xcn, .slice xak xlk xck] 30)) (New w.heap.size _) (treeR names d (kidR (.mk kd n ns ks) 0)) ⟨xk, xn, xan, xln, xcn, xak, xlk, xck⟩ := ((HXC.out.past (Nat.le_refl _) hq6 (by omega)).past (by omega) hPO (by omega)).growN (Below.of_allocZ _ _ (Nat.le_refl _))
    have hF := TzV.kidN (S := New w.heap.size _) (g := w4.heap.size) (ty := 30) (fr := (0, 0)) 4 hk1 ⟨by omega, (Array.getElem?_eq_some_iff.1 hk1).1⟩ hX
    unfold put4 at v0 v1 v2 v3 hbl hF
    refine bodyPost_ret (v := .agg #[.int .i64 4, .string ⟨#[]⟩, .slice none 0 0, .slice (some ⟨w4.heap.size, 0, none⟩) 1 1]) (by simp [results, Try.results19, go_sem, v0, v1, v2, v3]) rfl ?_
    exact ⟨⟨4, ⟨#[]⟩, none, 0, 0, some ⟨w4.heap.size, 0, none⟩, 1, 1⟩, rfl, hF, hbl⟩
set_option maxRecDepth 100000 in
set_option maxHeartbeats 8000000 in
theorem tree_4k (D d : Nat) (hD : D = d + 1) (ih : TreeC d) (hd : d ≤ 1000) (hd1 : 1 ≤ d) (kd n : Int) (ns : List Int) (ks : List Rw) (c : R4) (names : List (List UInt8)) (na : Option Addr) (nc : Nat) (w : World) (hV : RwV w (.mk kd n ns ks) c) (hnl : names.length ≤ 1000) (hnm : RowV w (Any w) na 1 (names.map fun n => [str n])) (hk0 : kd % 9 = 4) :
    Calls Try.prog 19 #[.agg #[.int .i64 c.k, .int .i64 c.n, .slice c.an c.ln c.cn, .slice c.ak c.lk c.ck], .int .i64 D, .slice na names.length nc] w (TreeP (treeR names D (.mk kd n ns ks)) w) := by
  have hT : topK names.length (d + 1) kd = 5 := by unfold topK; rw [hk0]; exact if_neg (by omega)
  rw [hD, treeR_kid names d kd n ns ks 5 hT (by omega), if_neg (by omega), ← hD]
  have hV0 := hV
  cases hV with
  | mk _ _ _ _ an cn ak ck us hk hn hii hln hlk hl ha hb hu =>
    obtain ⟨hkl, hkh⟩ := hk
    have hdz : ¬ (D : Int) ≤ 1 := by omega
    have hdm : (D : Int) - 1 = (d : Int) := by omega
    have hdw : IntKind.i64.wrap ((D : Int) - 1) = (d : Int) := by rw [IntKind.wrap_i64]; omega
    have HK0 := Lib.hid hk0; have HV := Lib.hid hV0; have HNM := Lib.hid hnm; have HIH := Lib.hid ih; have HD := Lib.hid hD
    skip
    clear hu hb ha hii hl hT hk0 hnm hV0 ih hD
    go_enter Try.func19, Try.ntmps19
    go_wp2_with (first
      | (go_at_call 30; (with_reducible refine (within3_is _ _ _ _ (by omega) (by omega) hkl hkh HK0.out).mono ?_); rintro e w2 ⟨rfl, hw⟩; have hz2 : w2.heap.size = w.heap.size + 2 := (by rw [← hw]; simp); have hb2 : Below w.heap.size w w2 := (by rw [← hw]; exact ((Below.refl _ _).alloc (Nat.le_refl _) _).alloc (by simp) _); have hr2 : w2.heap[w.heap.size]? = some (.cells #[.int .i64 kd, .int .i64 n, .slice an ns.length cn, .slice ak ks.length ck] 54 (0, 0)) := (by rw [← hw, blk_if, if_neg (by simp), blk_if, if_pos rfl]); have ho2 : w2.heap[w.heap.size + 1]? = some (.cells #[.int .i64 0, .string ⟨#[]⟩, .slice none 0 0, .slice none 0 0] 30 (0, 0)) := (by rw [← hw, blk_if, if_pos (by simp)]); obtain ⟨⟨r0, r1, r2, r3⟩, -⟩ := four_blk hr2; obtain ⟨⟨o0, o1, o2, o3⟩, ⟨f0, f1, f2, f3⟩⟩ := four_blk ho2; have HB2 := Lib.hid hb2; have HR2 := Lib.hid hr2; have HO2 := Lib.hid ho2; clear hw hb2 hr2 ho2)
      | (go_at_call 31; (with_reducible refine (kid0_any (.mk kd n ns ks) ⟨kd, n, an, ns.length, cn, ak, ks.length, ck⟩ _ (HV.out.later (HB2.out.alloc (by omega) (.cells #[.int .i64 5, .string ⟨#[]⟩, .slice none 0 0, .slice none 0 0] 30)))).mono ?_); rintro e w3 ⟨rc, rfl, hrc, hb3⟩; have hz3 := hb3.size; simp at hz3; have hbw : Below w.heap.size w w3 := (HB2.out.alloc (by omega) _).trans (hb3.mono (by simp; omega)); have ht3 : w3.heap[w.heap.size + 2]? = some (.cells #[.int .i64 5, .string ⟨#[]⟩, .slice none 0 0, .slice none 0 0] 30 (0, 0)) := (hb3.block _ (by simp; omega)).trans (by rw [blk_if, if_pos (by omega)]); have ho3 : w3.heap[w.heap.size + 1]? = some (.cells #[.int .i64 0, .string ⟨#[]⟩, .slice none 0 0, .slice none 0 0] 30 (0, 0)) := (hb3.block _ (by simp; omega)).trans (by rw [blk_if, if_neg (by omega)]; exact HO2.out); have HRC := Lib.hid hrc; have HB3 := Lib.hid hbw; have HT3 := Lib.hid ht3; have HO3 := Lib.hid ho3; obtain ⟨rk, rn, ra1, ra2, ra3, ra4, ra5, ra6⟩ := rc; clear hrc hb3 hbw ht3 ho3)
      | (go_at_call 19; have CT := HIH.out _ _ names na nc w3 HRC.out (HNM.out.up HB3.out) hnl; (with_reducible refine CT.mono ?_); rintro e w4 ⟨xc, rfl, hxc, hb4⟩; have hz4 := hb4.size; have hbw : Below w.heap.size w w4 := HB3.out.trans (hb4.mono (by omega)); have ht4 : w4.heap[w.heap.size + 2]? = some (.cells #[.int .i64 5, .string ⟨#[]⟩, .slice none 0 0, .slice none 0 0] 30 (0, 0)) := (hb4.block _ (by omega)).trans HT3.out; have ho4 : w4.heap[w.heap.size + 1]? = some (.cells #[.int .i64 0, .string ⟨#[]⟩, .slice none 0 0, .slice none 0 0] 30 (0, 0)) := (hb4.block _ (by omega)).trans HO3.out; obtain ⟨⟨t0, t1, t2, t3⟩, ⟨y0, y1, y2, y3⟩⟩ := four_blk ht4; obtain ⟨⟨q0, q1, q2, q3⟩, ⟨x0, x1, x2, x3⟩⟩ := four_blk ho4; have hzw : w.heap.size + 2 < w4.heap.size := (by omega); have hzv : w.heap.size + 1 < w4.heap.size := (by omega); clear CT; have HXC := Lib.hid hxc; have HB4 := Lib.hid hbw; have HT4 := Lib.hid ht4; have HO4 := Lib.hid ho4; have hkk := hxc.kindZ; obtain ⟨xk, xn, xan, xln, xcn, xak, xlk, xck⟩ := xc; simp only at hkk; clear hkk; clear hxc hb4 hbw ht4 ho4))
    have hq6 : Only (w.heap.size + 2) w4 (w4.setCell ⟨w.heap.size + 2, 3, none⟩ (.slice (some ⟨w4.heap.size, 0, none⟩) 1 1)) := (Only.refl _ w4).setCell 3 _
    have hs1 := hq6.blk HO4.out (by omega)
    have hz6 : (w4.setCell ⟨w.heap.size + 2, 3, none⟩ (.slice (some ⟨w4.heap.size, 0, none⟩) 1 1)).heap.size = w4.heap.size := by simp
    have hPO := put4_only (w4.setCell ⟨w.heap.size + 2, 3, none⟩ (.slice (some ⟨w4.heap.size, 0, none⟩) 1 1)) (w.heap.size + 1) ⟨5, ⟨#[]⟩, none, 0, 0, some ⟨w4.heap.size, 0, none⟩, 1, 1⟩
    have hz7 := put4_size (w4.setCell ⟨w.heap.size + 2, 3, none⟩ (.slice (some ⟨w4.heap.size, 0, none⟩) 1 1)) (w.heap.size + 1) ⟨5, ⟨#[]⟩, none, 0, 0, some ⟨w4.heap.size, 0, none⟩, 1, 1⟩
    obtain ⟨⟨v0, v1, v2, v3⟩, -⟩ := four_blk (blk_allocZ (put4_at hs1 ⟨5, ⟨#[]⟩, none, 0, 0, some ⟨w4.heap.size, 0, none⟩, 1, 1⟩) (.cells #[.int .i64 xk, .string xn, .slice xan xln xcn, .slice xak xlk xck] 30))
    have hk1 : ((put4 (w4.setCell ⟨w.heap.size + 2, 3, none⟩ (.slice (some ⟨w4.heap.size, 0, none⟩) 1 1)) (w.heap.size + 1) ⟨5, ⟨#[]⟩, none, 0, 0, some ⟨w4.heap.size, 0, none⟩, 1, 1⟩).alloc (.cells #[.int .i64 xk, .string xn, .slice xan xln xcn, .slice xak xlk xck] 30)).heap[w4.heap.size]? = some (.cells #[.int .i64 xk, .string xn, .slice xan xln xcn, .slice xak xlk xck] 30 (0, 0)) := by rw [blk_if, if_pos (by omega)]
    have hb7 : Below w.heap.size w (put4 (w4.setCell ⟨w.heap.size + 2, 3, none⟩ (.slice (some ⟨w4.heap.size, 0, none⟩) 1 1)) (w.heap.size + 1) ⟨5, ⟨#[]⟩, none, 0, 0, some ⟨w4.heap.size, 0, none⟩, 1, 1⟩) := (HB4.out.trans (hq6.below (by omega) HB4.out.size)).trans (hPO.below (by omega) (by omega))
    have hbl : Below w.heap.size w ((put4 (w4.setCell ⟨w.heap.size + 2, 3, none⟩ (.slice (some ⟨w4.heap.size, 0, none⟩) 1 1)) (w.heap.size + 1) ⟨5, ⟨#[]⟩, none, 0, 0, some ⟨w4.heap.size, 0, none⟩, 1, 1⟩).alloc (.cells #[.int .i64 xk, .string xn, .slice xan xln xcn, .slice xak xlk xck] 30)) := hb7.alloc hb7.size _
    have hX : TzV ((put4 (w4.setCell ⟨w.heap.size + 2, 3, none⟩ (.slice (some ⟨w4.heap.size, 0, none⟩) 1 1)) (w.heap.size + 1) ⟨5, ⟨#[]⟩, none, 0, 0, some ⟨w4.heap.size, 0, none⟩, 1, 1⟩).alloc (.cells #[.int .i64 xk, .string xn, .slice xan xln xcn, .slice xak xlk xck] 30)) (New w.heap.size _) (treeR names d (kidR (.mk kd n ns ks) 0)) ⟨xk, xn, xan, xln, xcn, xak, xlk, xck⟩ := ((HXC.out.past (Nat.le_refl _) hq6 (by omega)).past (by omega) hPO (by omega)).growN (Below.of_allocZ _ _ (Nat.le_refl _))
    have hF := TzV.kidN (S := New w.heap.size _) (g := w4.heap.size) (ty := 30) (fr := (0, 0)) 5 hk1 ⟨by omega, (Array.getElem?_eq_some_iff.1 hk1).1⟩ hX
    unfold put4 at v0 v1 v2 v3 hbl hF
    refine bodyPost_ret (v := .agg #[.int .i64 5, .string ⟨#[]⟩, .slice none 0 0, .slice (some ⟨w4.heap.size, 0, none⟩) 1 1]) (by simp [results, Try.results19, go_sem, v0, v1, v2, v3]) rfl ?_
    exact ⟨⟨5, ⟨#[]⟩, none, 0, 0, some ⟨w4.heap.size, 0, none⟩, 1, 1⟩, rfl, hF, hbl⟩
set_option maxRecDepth 100000 in
set_option maxHeartbeats 8000000 in
theorem tree_5y (D d : Nat) (hD : D = d + 1) (ih : TreeC d) (hd : d ≤ 1000) (hd1 : 1 ≤ d) (kd n : Int) (ns : List Int) (ks : List Rw) (c : R4) (names : List (List UInt8)) (na : Option Addr) (nc : Nat) (w : World) (hV : RwV w (.mk kd n ns ks) c) (hnl : names.length ≤ 1000) (hnm : RowV w (Any w) na 1 (names.map fun n => [str n])) (hk0 : kd % 9 = 5) (h6 : (treeR names d (kidR (.mk kd n ns ks) 0)).kind = 6) :
    Calls Try.prog 19 #[.agg #[.int .i64 c.k, .int .i64 c.n, .slice c.an c.ln c.cn, .slice c.ak c.lk c.ck], .int .i64 D, .slice na names.length nc] w (TreeP (treeR names D (.mk kd n ns ks)) w) := by
  have hT : topK names.length (d + 1) kd = 6 := by unfold topK; rw [hk0]; exact if_neg (by omega)
  rw [hD, treeR_kid names d kd n ns ks 6 hT (by omega), if_pos ⟨rfl, h6⟩, ← hD]
  have hV0 := hV
  cases hV with
  | mk _ _ _ _ an cn ak ck us hk hn hii hln hlk hl ha hb hu =>
    obtain ⟨hkl, hkh⟩ := hk
    have hdz : ¬ (D : Int) ≤ 1 := by omega
    have hdm : (D : Int) - 1 = (d : Int) := by omega
    have hdw : IntKind.i64.wrap ((D : Int) - 1) = (d : Int) := by rw [IntKind.wrap_i64]; omega
    have HK0 := Lib.hid hk0; have HV := Lib.hid hV0; have HNM := Lib.hid hnm; have HIH := Lib.hid ih; have HD := Lib.hid hD
    have H6 := Lib.hid h6
    clear hu hb ha hii hl hT hk0 hnm hV0 ih hD h6
    go_enter Try.func19, Try.ntmps19
    go_wp2_with (first
      | (go_at_call 30; (with_reducible refine (within3_is _ _ _ _ (by omega) (by omega) hkl hkh HK0.out).mono ?_); rintro e w2 ⟨rfl, hw⟩; have hz2 : w2.heap.size = w.heap.size + 2 := (by rw [← hw]; simp); have hb2 : Below w.heap.size w w2 := (by rw [← hw]; exact ((Below.refl _ _).alloc (Nat.le_refl _) _).alloc (by simp) _); have hr2 : w2.heap[w.heap.size]? = some (.cells #[.int .i64 kd, .int .i64 n, .slice an ns.length cn, .slice ak ks.length ck] 54 (0, 0)) := (by rw [← hw, blk_if, if_neg (by simp), blk_if, if_pos rfl]); have ho2 : w2.heap[w.heap.size + 1]? = some (.cells #[.int .i64 0, .string ⟨#[]⟩, .slice none 0 0, .slice none 0 0] 30 (0, 0)) := (by rw [← hw, blk_if, if_pos (by simp)]); obtain ⟨⟨r0, r1, r2, r3⟩, -⟩ := four_blk hr2; obtain ⟨⟨o0, o1, o2, o3⟩, ⟨f0, f1, f2, f3⟩⟩ := four_blk ho2; have HB2 := Lib.hid hb2; have HR2 := Lib.hid hr2; have HO2 := Lib.hid ho2; clear hw hb2 hr2 ho2)
      | (go_at_call 31; (with_reducible refine (kid0_any (.mk kd n ns ks) ⟨kd, n, an, ns.length, cn, ak, ks.length, ck⟩ _ (HV.out.later (HB2.out.alloc (by omega) (.cells #[.int .i64 6, .string ⟨#[]⟩, .slice none 0 0, .slice none 0 0] 30)))).mono ?_); rintro e w3 ⟨rc, rfl, hrc, hb3⟩; have hz3 := hb3.size; simp at hz3; have hbw : Below w.heap.size w w3 := (HB2.out.alloc (by omega) _).trans (hb3.mono (by simp; omega)); have ht3 : w3.heap[w.heap.size + 2]? = some (.cells #[.int .i64 6, .string ⟨#[]⟩, .slice none 0 0, .slice none 0 0] 30 (0, 0)) := (hb3.block _ (by simp; omega)).trans (by rw [blk_if, if_pos (by omega)]); have ho3 : w3.heap[w.heap.size + 1]? = some (.cells #[.int .i64 0, .string ⟨#[]⟩, .slice none 0 0, .slice none 0 0] 30 (0, 0)) := (hb3.block _ (by simp; omega)).trans (by rw [blk_if, if_neg (by omega)]; exact HO2.out); have HRC := Lib.hid hrc; have HB3 := Lib.hid hbw; have HT3 := Lib.hid ht3; have HO3 := Lib.hid ho3; obtain ⟨rk, rn, ra1, ra2, ra3, ra4, ra5, ra6⟩ := rc; clear hrc hb3 hbw ht3 ho3)
      | (go_at_call 19; have CT := HIH.out _ _ names na nc w3 HRC.out (HNM.out.up HB3.out) hnl; (with_reducible refine CT.mono ?_); rintro e w4 ⟨xc, rfl, hxc, hb4⟩; have hz4 := hb4.size; have hbw : Below w.heap.size w w4 := HB3.out.trans (hb4.mono (by omega)); have ht4 : w4.heap[w.heap.size + 2]? = some (.cells #[.int .i64 6, .string ⟨#[]⟩, .slice none 0 0, .slice none 0 0] 30 (0, 0)) := (hb4.block _ (by omega)).trans HT3.out; have ho4 : w4.heap[w.heap.size + 1]? = some (.cells #[.int .i64 0, .string ⟨#[]⟩, .slice none 0 0, .slice none 0 0] 30 (0, 0)) := (hb4.block _ (by omega)).trans HO3.out; obtain ⟨⟨t0, t1, t2, t3⟩, ⟨y0, y1, y2, y3⟩⟩ := four_blk ht4; obtain ⟨⟨q0, q1, q2, q3⟩, ⟨x0, x1, x2, x3⟩⟩ := four_blk ho4; have hzw : w.heap.size + 2 < w4.heap.size := (by omega); have hzv : w.heap.size + 1 < w4.heap.size := (by omega); clear CT; have HXC := Lib.hid hxc; have HB4 := Lib.hid hbw; have HT4 := Lib.hid ht4; have HO4 := Lib.hid ho4; have hkk := hxc.kindZ; obtain ⟨xk, xn, xan, xln, xcn, xak, xlk, xck⟩ := xc; simp only at hkk; (rw [H6.out] at hkk; subst hkk); clear hxc hb4 hbw ht4 ho4))
    have hq6 : Only (w.heap.size + 2) w4 (w4.setCell ⟨w.heap.size + 2, 3, none⟩ (.slice (some ⟨w4.heap.size, 0, none⟩) 1 1)) := (Only.refl _ w4).setCell 3 _
    have hs1 := hq6.blk HO4.out (by omega)
    have hz6 : (w4.setCell ⟨w.heap.size + 2, 3, none⟩ (.slice (some ⟨w4.heap.size, 0, none⟩) 1 1)).heap.size = w4.heap.size := by simp
    have hPO := put4_only (w4.setCell ⟨w.heap.size + 2, 3, none⟩ (.slice (some ⟨w4.heap.size, 0, none⟩) 1 1)) (w.heap.size + 1) ⟨6, xn, xan, xln, xcn, xak, xlk, xck⟩
    have hz7 := put4_size (w4.setCell ⟨w.heap.size + 2, 3, none⟩ (.slice (some ⟨w4.heap.size, 0, none⟩) 1 1)) (w.heap.size + 1) ⟨6, xn, xan, xln, xcn, xak, xlk, xck⟩
    obtain ⟨⟨v0, v1, v2, v3⟩, -⟩ := four_blk (blk_allocZ (put4_at hs1 ⟨6, xn, xan, xln, xcn, xak, xlk, xck⟩) (.cells #[.int .i64 6, .string xn, .slice xan xln xcn, .slice xak xlk xck] 30))
    have hb7 : Below w.heap.size w (put4 (w4.setCell ⟨w.heap.size + 2, 3, none⟩ (.slice (some ⟨w4.heap.size, 0, none⟩) 1 1)) (w.heap.size + 1) ⟨6, xn, xan, xln, xcn, xak, xlk, xck⟩) := (HB4.out.trans (hq6.below (by omega) HB4.out.size)).trans (hPO.below (by omega) (by omega))
    have hbl : Below w.heap.size w ((put4 (w4.setCell ⟨w.heap.size + 2, 3, none⟩ (.slice (some ⟨w4.heap.size, 0, none⟩) 1 1)) (w.heap.size + 1) ⟨6, xn, xan, xln, xcn, xak, xlk, xck⟩).alloc (.cells #[.int .i64 6, .string xn, .slice xan xln xcn, .slice xak xlk xck] 30)) := hb7.alloc hb7.size _
    have hF : TzV ((put4 (w4.setCell ⟨w.heap.size + 2, 3, none⟩ (.slice (some ⟨w4.heap.size, 0, none⟩) 1 1)) (w.heap.size + 1) ⟨6, xn, xan, xln, xcn, xak, xlk, xck⟩).alloc (.cells #[.int .i64 6, .string xn, .slice xan xln xcn, .slice xak xlk xck] 30)) (New w.heap.size _) (treeR names d (kidR (.mk kd n ns ks) 0)) ⟨6, xn, xan, xln, xcn, xak, xlk, xck⟩ := ((HXC.out.past (Nat.le_refl _) hq6 (by omega)).past (by omega) hPO (by omega)).growN (Below.of_allocZ _ _ (Nat.le_refl _))
    unfold put4 at v0 v1 v2 v3 hbl hF
    refine bodyPost_ret (v := .agg #[.int .i64 6, .string xn, .slice xan xln xcn, .slice xak xlk xck]) (by simp [results, Try.results19, go_sem, v0, v1, v2, v3]) rfl ?_
    exact ⟨⟨6, xn, xan, xln, xcn, xak, xlk, xck⟩, rfl, hF, hbl⟩
set_option maxRecDepth 100000 in
set_option maxHeartbeats 8000000 in
theorem tree_5n (D d : Nat) (hD : D = d + 1) (ih : TreeC d) (hd : d ≤ 1000) (hd1 : 1 ≤ d) (kd n : Int) (ns : List Int) (ks : List Rw) (c : R4) (names : List (List UInt8)) (na : Option Addr) (nc : Nat) (w : World) (hV : RwV w (.mk kd n ns ks) c) (hnl : names.length ≤ 1000) (hnm : RowV w (Any w) na 1 (names.map fun n => [str n])) (hk0 : kd % 9 = 5) (h6 : (treeR names d (kidR (.mk kd n ns ks) 0)).kind ≠ 6) :
    Calls Try.prog 19 #[.agg #[.int .i64 c.k, .int .i64 c.n, .slice c.an c.ln c.cn, .slice c.ak c.lk c.ck], .int .i64 D, .slice na names.length nc] w (TreeP (treeR names D (.mk kd n ns ks)) w) := by
  have hT : topK names.length (d + 1) kd = 6 := by unfold topK; rw [hk0]; exact if_neg (by omega)
  rw [hD, treeR_kid names d kd n ns ks 6 hT (by omega), if_neg (fun h => h6 h.2), ← hD]
  have hV0 := hV
  cases hV with
  | mk _ _ _ _ an cn ak ck us hk hn hii hln hlk hl ha hb hu =>
    obtain ⟨hkl, hkh⟩ := hk
    have hdz : ¬ (D : Int) ≤ 1 := by omega
    have hdm : (D : Int) - 1 = (d : Int) := by omega
    have hdw : IntKind.i64.wrap ((D : Int) - 1) = (d : Int) := by rw [IntKind.wrap_i64]; omega
    have HK0 := Lib.hid hk0; have HV := Lib.hid hV0; have HNM := Lib.hid hnm; have HIH := Lib.hid ih; have HD := Lib.hid hD
    have H6 := Lib.hid h6
    clear hu hb ha hii hl hT hk0 hnm hV0 ih hD h6
    go_enter Try.func19, Try.ntmps19
    go_wp2_with (first
      | (go_at_call 30; (with_reducible refine (within3_is _ _ _ _ (by omega) (by omega) hkl hkh HK0.out).mono ?_); rintro e w2 ⟨rfl, hw⟩; have hz2 : w2.heap.size = w.heap.size + 2 := (by rw [← hw]; simp); have hb2 : Below w.heap.size w w2 := (by rw [← hw]; exact ((Below.refl _ _).alloc (Nat.le_refl _) _).alloc (by simp) _); have hr2 : w2.heap[w.heap.size]? = some (.cells #[.int .i64 kd, .int .i64 n, .slice an ns.length cn, .slice ak ks.length ck] 54 (0, 0)) := (by rw [← hw, blk_if, if_neg (by simp), blk_if, if_pos rfl]); have ho2 : w2.heap[w.heap.size + 1]? = some (.cells #[.int .i64 0, .string ⟨#[]⟩, .slice none 0 0, .slice none 0 0] 30 (0, 0)) := (by rw [← hw, blk_if, if_pos (by simp)]); obtain ⟨⟨r0, r1, r2, r3⟩, -⟩ := four_blk hr2; obtain ⟨⟨o0, o1, o2, o3⟩, ⟨f0, f1, f2, f3⟩⟩ := four_blk ho2; have HB2 := Lib.hid hb2; have HR2 := Lib.hid hr2; have HO2 := Lib.hid ho2; clear hw hb2 hr2 ho2)
      | (go_at_call 31; (with_reducible refine (kid0_any (.mk kd n ns ks) ⟨kd, n, an, ns.length, cn, ak, ks.length, ck⟩ _ (HV.out.later (HB2.out.alloc (by omega) (.cells #[.int .i64 6, .string ⟨#[]⟩, .slice none 0 0, .slice none 0 0] 30)))).mono ?_); rintro e w3 ⟨rc, rfl, hrc, hb3⟩; have hz3 := hb3.size; simp at hz3; have hbw : Below w.heap.size w w3 := (HB2.out.alloc (by omega) _).trans (hb3.mono (by simp; omega)); have ht3 : w3.heap[w.heap.size + 2]? = some (.cells #[.int .i64 6, .string ⟨#[]⟩, .slice none 0 0, .slice none 0 0] 30 (0, 0)) := (hb3.block _ (by simp; omega)).trans (by rw [blk_if, if_pos (by omega)]); have ho3 : w3.heap[w.heap.size + 1]? = some (.cells #[.int .i64 0, .string ⟨#[]⟩, .slice none 0 0, .slice none 0 0] 30 (0, 0)) := (hb3.block _ (by simp; omega)).trans (by rw [blk_if, if_neg (by omega)]; exact HO2.out); have HRC := Lib.hid hrc; have HB3 := Lib.hid hbw; have HT3 := Lib.hid ht3; have HO3 := Lib.hid ho3; obtain ⟨rk, rn, ra1, ra2, ra3, ra4, ra5, ra6⟩ := rc; clear hrc hb3 hbw ht3 ho3)
      | (go_at_call 19; have CT := HIH.out _ _ names na nc w3 HRC.out (HNM.out.up HB3.out) hnl; (with_reducible refine CT.mono ?_); rintro e w4 ⟨xc, rfl, hxc, hb4⟩; have hz4 := hb4.size; have hbw : Below w.heap.size w w4 := HB3.out.trans (hb4.mono (by omega)); have ht4 : w4.heap[w.heap.size + 2]? = some (.cells #[.int .i64 6, .string ⟨#[]⟩, .slice none 0 0, .slice none 0 0] 30 (0, 0)) := (hb4.block _ (by omega)).trans HT3.out; have ho4 : w4.heap[w.heap.size + 1]? = some (.cells #[.int .i64 0, .string ⟨#[]⟩, .slice none 0 0, .slice none 0 0] 30 (0, 0)) := (hb4.block _ (by omega)).trans HO3.out; obtain ⟨⟨t0, t1, t2, t3⟩, ⟨y0, y1, y2, y3⟩⟩ := four_blk ht4; obtain ⟨⟨q0, q1, q2, q3⟩, ⟨x0, x1, x2, x3⟩⟩ := four_blk ho4; have hzw : w.heap.size + 2 < w4.heap.size := (by omega); have hzv : w.heap.size + 1 < w4.heap.size := (by omega); clear CT; have HXC := Lib.hid hxc; have HB4 := Lib.hid hbw; have HT4 := Lib.hid ht4; have HO4 := Lib.hid ho4; have hkk := hxc.kindZ; obtain ⟨xk, xn, xan, xln, xcn, xak, xlk, xck⟩ := xc; simp only at hkk; (have hk6 : (xk == 6) = false := (by rw [hkk, beq_eq_false_iff_ne]; exact H6.out); clear hkk); clear hxc hb4 hbw ht4 ho4))
    have hq6 : Only (w.heap.size + 2) w4 (w4.setCell ⟨w.heap.size + 2, 3, none⟩ (.slice (some ⟨w4.heap.size, 0, none⟩) 1 1)) := (Only.refl _ w4).setCell 3 _
    have hs1 := hq6.blk HO4.out (by omega)
    have hz6 : (w4.setCell ⟨w.heap.size + 2, 3, none⟩ (.slice (some ⟨w4.heap.size, 0, none⟩) 1 1)).heap.size = w4.heap.size := by simp
    have hPO := put4_only (w4.setCell ⟨w.heap.size + 2, 3, none⟩ (.slice (some ⟨w4.heap.size, 0, none⟩) 1 1)) (w.heap.size + 1) ⟨6, ⟨#[]⟩, none, 0, 0, some ⟨w4.heap.size, 0, none⟩, 1, 1⟩
    have hz7 := put4_size (w4.setCell ⟨w.heap.size + 2, 3, none⟩ (.slice (some ⟨w4.heap.size, 0, none⟩) 1 1)) (w.heap.size + 1) ⟨6, ⟨#[]⟩, none, 0, 0, some ⟨w4.heap.size, 0, none⟩, 1, 1⟩
    obtain ⟨⟨v0, v1, v2, v3⟩, -⟩ := four_blk (blk_allocZ (put4_at hs1 ⟨6, ⟨#[]⟩, none, 0, 0, some ⟨w4.heap.size, 0, none⟩, 1, 1⟩) (.cells #[.int .i64 xk, .string xn, .slice xan xln xcn, .slice xak xlk xck] 30))
    have hk1 : ((put4 (w4.setCell ⟨w.heap.size + 2, 3, none⟩ (.slice (some ⟨w4.heap.size, 0, none⟩) 1 1)) (w.heap.size + 1) ⟨6, ⟨#[]⟩, none, 0, 0, some ⟨w4.heap.size, 0, none⟩, 1, 1⟩).alloc (.cells #[.int .i64 xk, .string xn, .slice xan xln xcn, .slice xak xlk xck] 30)).heap[w4.heap.size]? = some (.cells #[.int .i64 xk, .string xn, .slice xan xln xcn, .slice xak xlk xck] 30 (0, 0)) := by rw [blk_if, if_pos (by omega)]
    have hb7 : Below w.heap.size w (put4 (w4.setCell ⟨w.heap.size + 2, 3, none⟩ (.slice (some ⟨w4.heap.size, 0, none⟩) 1 1)) (w.heap.size + 1) ⟨6, ⟨#[]⟩, none, 0, 0, some ⟨w4.heap.size, 0, none⟩, 1, 1⟩) := (HB4.out.trans (hq6.below (by omega) HB4.out.size)).trans (hPO.below (by omega) (by omega))
    have hbl : Below w.heap.size w ((put4 (w4.setCell ⟨w.heap.size + 2, 3, none⟩ (.slice (some ⟨w4.heap.size, 0, none⟩) 1 1)) (w.heap.size + 1) ⟨6, ⟨#[]⟩, none, 0, 0, some ⟨w4.heap.size, 0, none⟩, 1, 1⟩).alloc (.cells #[.int .i64 xk, .string xn, .slice xan xln xcn, .slice xak xlk xck] 30)) := hb7.alloc hb7.size _
    have hX : TzV ((put4 (w4.setCell ⟨w.heap.size + 2, 3, none⟩ (.slice (some ⟨w4.heap.size, 0, none⟩) 1 1)) (w.heap.size + 1) ⟨6, ⟨#[]⟩, none, 0, 0, some ⟨w4.heap.size, 0, none⟩, 1, 1⟩).alloc (.cells #[.int .i64 xk, .string xn, .slice xan xln xcn, .slice xak xlk xck] 30)) (New w.heap.size _) (treeR names d (kidR (.mk kd n ns ks) 0)) ⟨xk, xn, xan, xln, xcn, xak, xlk, xck⟩ := ((HXC.out.past (Nat.le_refl _) hq6 (by omega)).past (by omega) hPO (by omega)).growN (Below.of_allocZ _ _ (Nat.le_refl _))
    have hF := TzV.kidN (S := New w.heap.size _) (g := w4.heap.size) (ty := 30) (fr := (0, 0)) 6 hk1 ⟨by omega, (Array.getElem?_eq_some_iff.1 hk1).1⟩ hX
    unfold put4 at v0 v1 v2 v3 hbl hF
    refine bodyPost_ret (v := .agg #[.int .i64 6, .string ⟨#[]⟩, .slice none 0 0, .slice (some ⟨w4.heap.size, 0, none⟩) 1 1]) (by simp [results, Try.results19, go_sem, v0, v1, v2, v3]) rfl ?_
    exact ⟨⟨6, ⟨#[]⟩, none, 0, 0, some ⟨w4.heap.size, 0, none⟩, 1, 1⟩, rfl, hF, hbl⟩
end Sp
end Go.Proofs.Ytdophmlnmbcjlaa
