/- Package sprueref4: opts. Written by gen_wopts.py. -/
import Derived.Test.YteooafgdmpbjeabV37
namespace Go.Proofs.Yteooafgdmpbjeab
open Go.RowKit
namespace Sp
open Sc
mutual
/-- Whether an Opt stands right in an Opt. -/
def nestR (l : List NT) : Tz → Bool
  | .mk k _ _ ks => (decide (k = 6) && decide ((openR l (l.length + 1) (kid0 ks)).kind = 6)) || nestsR l ks
def nestsR (l : List NT) : List Tz → Bool
  | [] => false
  | t :: ks => nestR l t || nestsR l ks
end
mutual
/-- Each Opt has a kid. -/
def kidsOk : Tz → Bool
  | .mk k _ _ ks => (!decide (k = 6) || decide (0 < ks.length)) && kidsOks ks
def kidsOks : List Tz → Bool
  | [] => true
  | t :: ks => kidsOk t && kidsOks ks
end
theorem kidsOks_mem : ∀ (ks : List Tz), kidsOks ks = true → ∀ (k : Nat) (h : k < ks.length), kidsOk ks[k] = true
  | t :: ks, hg, 0, _ => by simp only [kidsOks, Bool.and_eq_true] at hg; exact hg.1
  | t :: ks, hg, k + 1, h => by simp only [kidsOks, Bool.and_eq_true] at hg; exact kidsOks_mem ks hg.2 k (by simpa using h)
theorem nestsR_drop {l : List NT} {ks : List Tz} {i : Nat} (h : i < ks.length) : nestsR l (ks.drop i) = (nestR l ks[i] || nestsR l (ks.drop (i + 1))) := by rw [List.drop_eq_getElem_cons h, nestsR]
/-- What a call of opts leaves. -/
def OptP (S : Nat → Prop) (s : Sz) (c : C4) (a1 a2 : Option Addr) (us : List (List UInt8 × C4)) (gs : List (List UInt8 × G6)) (c1 c2 : Nat) (t : Tz) : Prop := ∀ (ct : C4) (w : World), (∀ g, S g → g < w.heap.size) → SzV w S s c a1 us a2 gs → TzV w S t ct →
  Calls Try.prog 58 #[.agg #[.int .i64 c.k, .string c.n, .slice c.an c.ln c.cn, .slice c.ak c.lk c.ck, .slice a1 s.types.length c1, .slice a2 s.sigs.length c2], .agg #[.int .i64 ct.k, .string ct.n, .slice ct.an ct.ln ct.cn, .slice ct.ak ct.lk ct.ck]] w fun e w' => e = .returned (.bool (nestR s.types t)) ∧ Below w.heap.size w w'
structure OpsR (w : World) (sc tc : Array Value) (l : List NT) (full : Bool) (ks : List Tz) (iv : Value) (wr : World) (j : Nat) : Prop where
  slot : iv = .int .i64 j
  le : j ≤ ks.length
  rest : nestsR l (ks.drop j) = full
  sbox : wr.heap[w.heap.size]? = some (.cells sc 35 (0, 0))
  tbox : wr.heap[w.heap.size + 1]? = some (.cells tc 31 (0, 0))
  size : w.heap.size + 2 ≤ wr.heap.size
  below : Below w.heap.size w wr
set_option maxRecDepth 100000 in
set_option maxHeartbeats 16000000 in
theorem opts_step (S : Nat → Prop) (s : Sz) (c : C4) (a1 a2 : Option Addr) (us : List (List UInt8 × C4)) (gs : List (List UInt8 × G6)) (c1 c2 : Nat) (hl : s.types.length ≤ 1000000) (k : Int) (nm : List UInt8) (ns : List (List UInt8)) (ks : List Tz) (hko : kidsOk (.mk k nm ns ks) = true) (hkl : ks.length ≤ maxLen) (ih : ∀ i (h : i < ks.length), OptP S s c a1 a2 us gs c1 c2 ks[i]) : OptP S s c a1 a2 us gs c1 c2 (.mk k nm ns ks) := by
  intro ct w hS hV hT
  unfold maxLen at hkl
  rw [kidsOk] at hko
  cases hT with
  | mk _ _ _ _ an cn ak ck vs hvl hnr hkr hu =>
    obtain ⟨W0, hW0⟩ : ∃ W0, W0 = (w.alloc (.cells #[.int .i64 c.k, .string c.n, .slice c.an c.ln c.cn, .slice c.ak c.lk c.ck, .slice a1 s.types.length c1, .slice a2 s.sigs.length c2] 35)).alloc (.cells #[.int .i64 k, .string ⟨nm.toArray⟩, .slice an ns.length cn, .slice ak ks.length ck] 31) := ⟨_, rfl⟩
    have hb0 : Below w.heap.size w W0 := by rw [hW0]; exact ((Below.refl _ _).alloc (Nat.le_refl _) _).alloc (by simp) _
    have hz0 : W0.heap.size = w.heap.size + 2 := by rw [hW0]; simp
    have hs0 : W0.heap[w.heap.size]? = some (.cells #[.int .i64 c.k, .string c.n, .slice c.an c.ln c.cn, .slice c.ak c.lk c.ck, .slice a1 s.types.length c1, .slice a2 s.sigs.length c2] 35 (0, 0)) := by rw [hW0, blk_if, if_neg (by simp), blk_if, if_pos rfl]
    have ht0 : W0.heap[w.heap.size + 1]? = some (.cells #[.int .i64 k, .string ⟨nm.toArray⟩, .slice an ns.length cn, .slice ak ks.length ck] 31 (0, 0)) := by rw [hW0, blk_if, if_pos (by simp)]
    generalize hB : nestR s.types (.mk k nm ns ks) = B
    rw [nestR] at hB
    have HSS := Lib.hid hS; have HV := Lib.hid hV; have HKR := Lib.hid hkr; have HU := Lib.hid hu; have HIH := Lib.hid ih; have HW0 := Lib.hid hW0; have HB0 := Lib.hid hb0; have HS0 := Lib.hid hs0; have HT0 := Lib.hid ht0; have HKL := Lib.hid hvl
    clear hS hV hkr hu ih hW0 hb0 hs0 ht0 hvl hnr
    by_cases h6 : k = 6
    · subst h6
      simp only [decide_true, Bool.not_true, Bool.false_or, Bool.and_eq_true, decide_eq_true_eq, Bool.true_and] at hko hB
      obtain ⟨hpos, _⟩ := hko
      have hlu : 0 < vs.length := by rw [HKL.out]; exact hpos
      have hne0 : ¬ ks = [] := fun e => by rw [e] at hpos; exact absurd hpos (by simp)
      obtain ⟨g, o, rfl, hg, hc⟩ := four_at HKR.out HSS.out 0 hlu
      simp only [Nat.zero_mul, Nat.add_zero] at hc
      have hk0 : kid0 ks = ks[0] := by unfold kid0; cases ks with | nil => exact absurd hpos (by simp) | cons a b => rfl
      rw [hk0] at hB
      obtain ⟨K, hK⟩ : ∃ K, K = (openR s.types (s.types.length + 1) ks[0]).kind := ⟨_, rfl⟩
      rw [← hK] at hB
      obtain ⟨kb, hkb⟩ : ∃ kb, (K == 6) = kb := ⟨_, rfl⟩
      have HKB := Lib.hid hkb
      clear hkb
      have hfld : ∀ (d1 : Int) (d2 : ByteArray) (d3 : Option Addr) (d4 d5 : Nat) (d6 : Option Addr) (d7 d8 : Nat) (w : World), (Instr.field 31 (.agg #[.int .i64 d1, .string d2, .slice d3 d4 d5, .slice d6 d7 d8]) 0).run Try.prog w = .ok (.int .i64 d1) w := fun _ _ _ _ _ _ _ _ _ => by kernel_rfl
      have hxv := HU.out 0 hpos hlu
      generalize vs[0] = x0 at *
      have HX0 := Lib.hid hxv
      clear hxv
      have HC0 := Lib.hid hc; have HK : Hid ((openR s.types (s.types.length + 1) ks[0]).kind = K) := hK.symm; have HB := Lib.hid hB
      clear hc hK hB hk0
      go_enter Try.func58, Try.ntmps58
      go_wp2_with fail
      rw [← HW0.out]
      refine wp_region_by (QJ (fun (y : C4) i => match i with | 0 => .pointer (some ⟨w.heap.size + 1, 0, none⟩) | 1 => .int .i64 6 | 2 => .bool true | 3 => .bool true | 4 => .agg #[.int .i64 c.k, .string c.n, .slice c.an c.ln c.cn, .slice c.ak c.lk c.ck, .slice a1 s.types.length c1, .slice a2 s.sigs.length c2] | 5 => .pointer (some ⟨w.heap.size + 1, 3, none⟩) | 6 => .slice (some ⟨g, o, none⟩) ks.length ck | 7 => .pointer (some ⟨g, o, none⟩) | 8 => .agg #[.int .i64 x0.k, .string x0.n, .slice x0.an x0.ln x0.cn, .slice x0.ak x0.lk x0.ck] | 9 => .agg #[.int .i64 y.k, .string y.n, .slice y.an y.ln y.cn, .slice y.ak y.lk y.ck] | 10 => .int .i64 K | 11 => .bool kb | 12 => .bool kb | _ => undef) (fun (y : C4) listed v => Below W0.heap.size W0 v ∧ (listed.getD 9 false = true → y.k = K))) (by kernel_rfl) ?_ ?_ ?_
      · exact ⟨by simp, Closed.start _, ⟨0, ⟨#[]⟩, none, 0, 0, none, 0, 0⟩, Fr.start _ _ _, Below.drew (Below.refl _ _), fun h => by simp at h⟩
      · intro listed b v q hJ hi
        obtain ⟨hsz, hC, y, hF, hM⟩ := hJ
        obtain ⟨hl1, hiN⟩ := not_up hsz hi
        obtain ⟨_, o, ho, hdeps⟩ := mem_ready.1 hi
        have hiN : q < 13 := hiN
        obtain rfl | rfl | rfl | rfl | rfl | rfl | rfl | rfl | rfl | rfl | rfl | rfl | rfl : q = 0 ∨ q = 1 ∨ q = 2 ∨ q = 3 ∨ q = 4 ∨ q = 5 ∨ q = 6 ∨ q = 7 ∨ q = 8 ∨ q = 9 ∨ q = 10 ∨ q = 11 ∨ q = 12 := by omega
        · cases ho
          have e3 := hF.old_is 3 (by rfl) rfl
          refine QJ.quiet (x := y) hsz hC hi hF (Slots.of (by rfl)) rfl (wanted_none rfl) ⟨hM.1, fun h => hM.2 (by rw [getD_setN (show 0 ≠ 9 by decide)] at h; exact h)⟩ ?_
          show _ = Result.ok (Next.value (.pointer (some ⟨w.heap.size + 1, 0, none⟩))) v
          simp [execOp, go_sem, e3]
        · cases ho
          obtain ⟨⟨y0, y1, y2, y3⟩, _⟩ := four_blk ((hM.1.block (w.heap.size + 1) (by omega)).trans HT0.out)
          have e6 : b.tmps[6]? = some (.pointer (some ⟨w.heap.size + 1, 0, none⟩)) := hF.up 0 6 rfl (hdeps ⟨0, .data⟩ (by simp) rfl)
          refine QJ.quiet (x := y) hsz hC hi hF (Slots.of (by rfl)) rfl (wanted_none rfl) ⟨hM.1, fun h => hM.2 (by rw [getD_setN (show 1 ≠ 9 by decide)] at h; exact h)⟩ ?_
          show _ = Result.ok (Next.value (.int .i64 6)) v
          simp [execOp, go_sem, e6, y0]
        · cases ho
          have e7 : b.tmps[7]? = some (.int .i64 6) := hF.up 1 7 rfl (hdeps ⟨1, .data⟩ (by simp) rfl)
          refine QJ.quiet (x := y) hsz hC hi hF (Slots.of (by rfl)) rfl (wanted_none rfl) ⟨hM.1, fun h => hM.2 (by rw [getD_setN (show 2 ≠ 9 by decide)] at h; exact h)⟩ ?_
          show _ = Result.ok (Next.value (.bool true)) v
          simp [execOp, go_sem, e7]
        · cases ho
          have e8 : b.tmps[8]? = some (.bool true) := hF.up 2 8 rfl (hdeps ⟨2, .data⟩ (by simp) rfl)
          refine QJ.quiet (x := y) hsz hC hi hF (Slots.of (by rfl)) rfl (wanted_none rfl) ⟨hM.1, fun h => hM.2 (by rw [getD_setN (show 3 ≠ 9 by decide)] at h; exact h)⟩ ?_
          show _ = Result.ok (Next.value (.bool true)) v
          simp [execOp, go_sem, e8]
        · cases ho
          obtain ⟨⟨y0, y1, y2, y3, y4, y5⟩, _⟩ := six_blkF ((hM.1.block w.heap.size (by omega)).trans HS0.out)
          have e2 := hF.old_is 2 (by rfl) rfl
          refine QJ.quiet (x := y) hsz hC hi hF (Slots.of (by rfl)) rfl ((wanted_of rfl rfl (show b.tmps[9]? = some (.bool true) from hF.up 3 9 rfl (hdeps ⟨3, .guard⟩ (by simp) rfl))).trans (by rfl)) ⟨hM.1, fun h => hM.2 (by rw [getD_setN (show 4 ≠ 9 by decide)] at h; exact h)⟩ ?_
          show _ = Result.ok (Next.value (.agg #[.int .i64 c.k, .string c.n, .slice c.an c.ln c.cn, .slice c.ak c.lk c.ck, .slice a1 s.types.length c1, .slice a2 s.sigs.length c2])) v
          simp [execOp, go_sem, e2, y0, y1, y2, y3, y4, y5]
        · cases ho
          have e3 := hF.old_is 3 (by rfl) rfl
          refine QJ.quiet (x := y) hsz hC hi hF (Slots.of (by rfl)) rfl ((wanted_of rfl rfl (show b.tmps[9]? = some (.bool true) from hF.up 3 9 rfl (hdeps ⟨3, .guard⟩ (by simp) rfl))).trans (by rfl)) ⟨hM.1, fun h => hM.2 (by rw [getD_setN (show 5 ≠ 9 by decide)] at h; exact h)⟩ ?_
          show _ = Result.ok (Next.value (.pointer (some ⟨w.heap.size + 1, 3, none⟩))) v
          simp [execOp, go_sem, e3]
        · cases ho
          obtain ⟨⟨y0, y1, y2, y3⟩, _⟩ := four_blk ((hM.1.block (w.heap.size + 1) (by omega)).trans HT0.out)
          have e11 : b.tmps[11]? = some (.pointer (some ⟨w.heap.size + 1, 3, none⟩)) := hF.up 5 11 rfl (hdeps ⟨5, .data⟩ (by simp) rfl)
          refine QJ.quiet (x := y) hsz hC hi hF (Slots.of (by rfl)) rfl ((wanted_of rfl rfl (show b.tmps[9]? = some (.bool true) from hF.up 3 9 rfl (hdeps ⟨3, .guard⟩ (by simp) rfl))).trans (by rfl)) ⟨hM.1, fun h => hM.2 (by rw [getD_setN (show 6 ≠ 9 by decide)] at h; exact h)⟩ ?_
          show _ = Result.ok (Next.value (.slice (some ⟨g, o, none⟩) ks.length ck)) v
          simp [execOp, go_sem, e11, y3]
        · cases ho
          have e12 : b.tmps[12]? = some (.slice (some ⟨g, o, none⟩) ks.length ck) := hF.up 6 12 rfl (hdeps ⟨6, .data⟩ (by simp) rfl)
          refine QJ.quiet (x := y) hsz hC hi hF (Slots.of (by rfl)) rfl ((wanted_of rfl rfl (show b.tmps[9]? = some (.bool true) from hF.up 3 9 rfl (hdeps ⟨3, .guard⟩ (by simp) rfl))).trans (by rfl)) ⟨hM.1, fun h => hM.2 (by rw [getD_setN (show 7 ≠ 9 by decide)] at h; exact h)⟩ ?_
          show _ = Result.ok (Next.value (.pointer (some ⟨g, o, none⟩))) v
          simp [execOp, go_sem, e12, hne0]
        · cases ho
          obtain ⟨y0, y1, y2, y3⟩ := HC0.out v (fun i hi => (hM.1.block i (by omega)).trans (HB0.out.block i hi))
          have e13 : b.tmps[13]? = some (.pointer (some ⟨g, o, none⟩)) := hF.up 7 13 rfl (hdeps ⟨7, .data⟩ (by simp) rfl)
          refine QJ.quiet (x := y) hsz hC hi hF (Slots.of (by rfl)) rfl ((wanted_of rfl rfl (show b.tmps[9]? = some (.bool true) from hF.up 3 9 rfl (hdeps ⟨3, .guard⟩ (by simp) rfl))).trans (by rfl)) ⟨hM.1, fun h => hM.2 (by rw [getD_setN (show 8 ≠ 9 by decide)] at h; exact h)⟩ ?_
          show _ = Result.ok (Next.value (.agg #[.int .i64 x0.k, .string x0.n, .slice x0.an x0.ln x0.cn, .slice x0.ak x0.lk x0.ck])) v
          simp [execOp, go_sem, e13, y0, y1, y2, y3]
        · cases ho
          have e10 : b.tmps[10]? = some (.agg #[.int .i64 c.k, .string c.n, .slice c.an c.ln c.cn, .slice c.ak c.lk c.ck, .slice a1 s.types.length c1, .slice a2 s.sigs.length c2]) := hF.up 4 10 rfl (hdeps ⟨4, .data⟩ (by simp) rfl)
          have e14 : b.tmps[14]? = some (.agg #[.int .i64 x0.k, .string x0.n, .slice x0.an x0.ln x0.cn, .slice x0.ak x0.lk x0.ck]) := hF.up 8 14 rfl (hdeps ⟨8, .data⟩ (by simp) rfl)
          refine QJ.call (x := y) (f := 75) (args := #[.agg #[.int .i64 c.k, .string c.n, .slice c.an c.ln c.cn, .slice c.ak c.lk c.ck, .slice a1 s.types.length c1, .slice a2 s.sigs.length c2], .agg #[.int .i64 x0.k, .string x0.n, .slice x0.an x0.ln x0.cn, .slice x0.ak x0.lk x0.ck]]) hsz hC hi hF (Slots.of (by rfl)) rfl ((wanted_of rfl rfl (show b.tmps[9]? = some (.bool true) from hF.up 3 9 rfl (hdeps ⟨3, .guard⟩ (by simp) rfl))).trans (by rfl)) (by simp [execOp, go_sem, e10, e14]) (Open_ref S s ks[0] x0 c a1 a2 us gs c1 c2 v (fun g hg => Nat.lt_of_lt_of_le (HSS.out g hg) (Nat.le_trans HB0.out.size hM.1.size)) (HV.out.keep (fun g hg => (hM.1.block g (by have := HSS.out g hg; omega)).trans (HB0.out.block g (HSS.out g hg)))) (HX0.out.keep (fun _ h => h) (fun g hg => (hM.1.block g (by have := HSS.out g hg; omega)).trans (HB0.out.block g (HSS.out g hg)))) hl) ?_
          rintro e w' ⟨y', rfl, hy', hb⟩
          exact ⟨y', rfl, fun j hj => match j, (show j ≠ 9 by rintro rfl; rw [hl1] at hj; cases hj) with | 0, _ => rfl | 1, _ => rfl | 2, _ => rfl | 3, _ => rfl | 4, _ => rfl | 5, _ => rfl | 6, _ => rfl | 7, _ => rfl | 8, _ => rfl | 9, h => absurd rfl h | 10, _ => rfl | 11, _ => rfl | 12, _ => rfl | _ + 13, _ => rfl, hM.1.trans (hb.mono hM.1.size), fun _ => by rw [← HK.out]; exact hy'.kindZ⟩
        · cases ho
          have hyk := hM.2 (hdeps ⟨9, .data⟩ (by simp) rfl)
          have e15 : b.tmps[15]? = some (.agg #[.int .i64 y.k, .string y.n, .slice y.an y.ln y.cn, .slice y.ak y.lk y.ck]) := hF.up 9 15 rfl (hdeps ⟨9, .data⟩ (by simp) rfl)
          refine QJ.quiet (x := y) hsz hC hi hF (Slots.of (by rfl)) rfl ((wanted_of rfl rfl (show b.tmps[9]? = some (.bool true) from hF.up 3 9 rfl (hdeps ⟨3, .guard⟩ (by simp) rfl))).trans (by rfl)) ⟨hM.1, fun h => hM.2 (by rw [getD_setN (show 10 ≠ 9 by decide)] at h; exact h)⟩ ?_
          show _ = Result.ok (Next.value (.int .i64 K)) v
          simp [execOp, go_sem, e15, hfld, hyk]
        · cases ho
          have e16 : b.tmps[16]? = some (.int .i64 K) := hF.up 10 16 rfl (hdeps ⟨10, .data⟩ (by simp) rfl)
          refine QJ.quiet (x := y) hsz hC hi hF (Slots.of (by rfl)) rfl ((wanted_of rfl rfl (show b.tmps[9]? = some (.bool true) from hF.up 3 9 rfl (hdeps ⟨3, .guard⟩ (by simp) rfl))).trans (by rfl)) ⟨hM.1, fun h => hM.2 (by rw [getD_setN (show 11 ≠ 9 by decide)] at h; exact h)⟩ ?_
          show _ = Result.ok (Next.value (.bool kb)) v
          simp [execOp, go_sem, e16, HKB.out]
        · cases ho
          have e9 : b.tmps[9]? = some (.bool true) := hF.up 3 9 rfl (hdeps ⟨3, .data⟩ (by simp) rfl)
          have e17 : b.tmps[17]? = some (.bool kb) := hF.up 11 17 rfl (hdeps ⟨11, .data⟩ (by simp) rfl)
          refine QJ.quiet (x := y) hsz hC hi hF (Slots.of (by rfl)) rfl (wanted_none rfl) ⟨hM.1, fun h => hM.2 (by rw [getD_setN (show 12 ≠ 9 by decide)] at h; exact h)⟩ ?_
          show _ = Result.ok (Next.value (.bool kb)) v
          simp [execOp, go_sem, e9, e17]
      · intro listed b W2 hJ hr
        obtain ⟨hsz, hC, y, hF, hM, -⟩ := hJ
        have hall := all_upB (by rfl) hsz hr
        have hb : b = putAll _ _ _ 13 := hF.done (Slots.of (by rfl)) hall
        subst hb
        simp only [putAll]
        simp [dstOf, Act.put]
        have hb2 := HB0.out.trans (hM.mono HB0.out.size)
        have hs2 := (hM.block w.heap.size (by omega)).trans HS0.out
        have ht2 := (hM.block (w.heap.size + 1) (by omega)).trans HT0.out
        have hz2 := hM.size
        have HB2 := Lib.hid hb2; have HS2 := Lib.hid hs2; have HT2 := Lib.hid ht2
        clear hM hF hC hall hr hsz hb2 hs2 ht2 HC0 hfld
        by_cases hK6 : K = 6
        · have hr2 : B = true := by rw [← HB.out, hK6]; rfl
          obtain rfl : kb = true := by rw [← HKB.out, hK6]; rfl
          have HRN := Lib.hid hr2
          clear hr2 hK6
          go_wp2
          go_ret
          exact ⟨ret_boolZ HRN.out.symm, HB2.out⟩
        · have hr2 : nestsR s.types (ks.drop 0) = B := by rw [← HB.out, show decide (K = 6) = false by simpa using hK6, Bool.false_or]; rfl
          obtain rfl : kb = false := by rw [← HKB.out, beq_eq_false_iff_ne]; exact hK6
          have HR2 := Lib.hid hr2
          clear hr2 hK6
          go_wp2_with fail
          go_loopw [5] (fun v5 wr => ∃ j, OpsR w #[.int .i64 c.k, .string c.n, .slice c.an c.ln c.cn, .slice c.ak c.lk c.ck, .slice a1 s.types.length c1, .slice a2 s.sigs.length c2] #[.int .i64 6, .string ⟨nm.toArray⟩, .slice an ns.length cn, .slice (some ⟨g, o, none⟩) ks.length ck] s.types B ks v5 wr j) (fun v5 _ => ks.length - (intOf v5).toNat)
          case atStart => exact ⟨0, rfl, Nat.zero_le _, HR2.out, HS2.out, HT2.out, by omega, HB2.out⟩
          case round =>
            obtain ⟨j, h⟩ := hrel
            obtain rfl := h.slot
            have hle := h.le
            have hzr := h.size
            obtain ⟨⟨t0, t1, t2, t3⟩, _⟩ := four_blk h.tbox
            have H := Lib.hid h
            clear h
            by_cases hj : j < ks.length
            · have hjz : (j : Int) < (ks.length : Int) := by omega
              have hj0 : (0 : Int) ≤ (j : Int) := by omega
              have hju : j < vs.length := by rw [HKL.out]; exact hj
              obtain ⟨g', o', e6, hg', hc⟩ := four_at HKR.out HSS.out j hju
              obtain ⟨rfl, rfl⟩ : g = g' ∧ o = o' := by cases e6; exact ⟨rfl, rfl⟩
              have hxv := HU.out j hj hju
              generalize vs[j] = xj at *
              have HCJ := Lib.hid hc; have HXJ := Lib.hid hxv
              have hrest := H.out.rest
              rw [nestsR_drop hj] at hrest
              have HRR := Lib.hid hrest
              clear hc hrest hxv
              go_wp2_with fail
              refine wp_region_by (QJ (fun (_ : Unit) i => match i with | 0 => .agg #[.int .i64 c.k, .string c.n, .slice c.an c.ln c.cn, .slice c.ak c.lk c.ck, .slice a1 s.types.length c1, .slice a2 s.sigs.length c2] | 1 => .pointer (some ⟨w.heap.size + 1, 3, none⟩) | 2 => .slice (some ⟨g, o, none⟩) ks.length ck | 3 => .int .i64 j | 4 => .pointer (some ⟨g, o + j * 4, none⟩) | 5 => .agg #[.int .i64 xj.k, .string xj.n, .slice xj.an xj.ln xj.cn, .slice xj.ak xj.lk xj.ck] | 6 => .bool (nestR s.types ks[j]) | _ => undef) (fun (_ : Unit) _ v => Below wr.heap.size wr v)) (by kernel_rfl) ?_ ?_ ?_
              · exact ⟨by simp, Closed.start _, (), Fr.start _ _ _, Below.drew (Below.refl _ _)⟩
              · intro listed b v q hJ hi
                obtain ⟨hsz, hC, x, hF, hM⟩ := hJ
                obtain ⟨hl1, hiN⟩ := not_up hsz hi
                obtain ⟨_, o, ho, hdeps⟩ := mem_ready.1 hi
                have hiN : q < 7 := hiN
                obtain rfl | rfl | rfl | rfl | rfl | rfl | rfl : q = 0 ∨ q = 1 ∨ q = 2 ∨ q = 3 ∨ q = 4 ∨ q = 5 ∨ q = 6 := by omega
                · cases ho
                  obtain ⟨⟨y0, y1, y2, y3, y4, y5⟩, _⟩ := six_blkF ((hM.block w.heap.size (by omega)).trans H.out.sbox)
                  have e2 := hF.old_is 2 (by rfl) rfl
                  refine QJ.quiet (x := x) hsz hC hi hF (Slots.of (by rfl)) rfl (wanted_none rfl) hM ?_
                  show _ = Result.ok (Next.value (.agg #[.int .i64 c.k, .string c.n, .slice c.an c.ln c.cn, .slice c.ak c.lk c.ck, .slice a1 s.types.length c1, .slice a2 s.sigs.length c2])) v
                  simp [execOp, go_sem, e2, y0, y1, y2, y3, y4, y5]
                · cases ho
                  have e3 := hF.old_is 3 (by rfl) rfl
                  refine QJ.quiet (x := x) hsz hC hi hF (Slots.of (by rfl)) rfl (wanted_none rfl) hM ?_
                  show _ = Result.ok (Next.value (.pointer (some ⟨w.heap.size + 1, 3, none⟩))) v
                  simp [execOp, go_sem, e3]
                · cases ho
                  obtain ⟨⟨y0, y1, y2, y3⟩, _⟩ := four_blk ((hM.block (w.heap.size + 1) (by omega)).trans H.out.tbox)
                  have e27 : b.tmps[27]? = some (.pointer (some ⟨w.heap.size + 1, 3, none⟩)) := hF.up 1 27 rfl (hdeps ⟨1, .data⟩ (by simp) rfl)
                  refine QJ.quiet (x := x) hsz hC hi hF (Slots.of (by rfl)) rfl (wanted_none rfl) hM ?_
                  show _ = Result.ok (Next.value (.slice (some ⟨g, o, none⟩) ks.length ck)) v
                  simp [execOp, go_sem, e27, y3]
                · cases ho
                  have e5 := hF.old_is 5 (by rfl) rfl
                  refine QJ.quiet (x := x) hsz hC hi hF (Slots.of (by rfl)) rfl (wanted_none rfl) hM ?_
                  show _ = Result.ok (Next.value (.int .i64 j)) v
                  simp [execOp, go_sem, e5]
                · cases ho
                  have e28 : b.tmps[28]? = some (.slice (some ⟨g, o, none⟩) ks.length ck) := hF.up 2 28 rfl (hdeps ⟨2, .data⟩ (by simp) rfl)
                  have e29 : b.tmps[29]? = some (.int .i64 j) := hF.up 3 29 rfl (hdeps ⟨3, .data⟩ (by simp) rfl)
                  refine QJ.quiet (x := x) hsz hC hi hF (Slots.of (by rfl)) rfl (wanted_none rfl) hM ?_
                  show _ = Result.ok (Next.value (.pointer (some ⟨g, o + j * 4, none⟩))) v
                  simp [execOp, go_sem, e28, e29, hj0, hjz]
                · cases ho
                  obtain ⟨y0, y1, y2, y3⟩ := HCJ.out v (fun i hi => (hM.block i (by omega)).trans (H.out.below.block i hi))
                  have e30 : b.tmps[30]? = some (.pointer (some ⟨g, o + j * 4, none⟩)) := hF.up 4 30 rfl (hdeps ⟨4, .data⟩ (by simp) rfl)
                  refine QJ.quiet (x := x) hsz hC hi hF (Slots.of (by rfl)) rfl (wanted_none rfl) hM ?_
                  show _ = Result.ok (Next.value (.agg #[.int .i64 xj.k, .string xj.n, .slice xj.an xj.ln xj.cn, .slice xj.ak xj.lk xj.ck])) v
                  simp [execOp, go_sem, e30, y0, y1, y2, y3]
                · cases ho
                  have e26 : b.tmps[26]? = some (.agg #[.int .i64 c.k, .string c.n, .slice c.an c.ln c.cn, .slice c.ak c.lk c.ck, .slice a1 s.types.length c1, .slice a2 s.sigs.length c2]) := hF.up 0 26 rfl (hdeps ⟨0, .data⟩ (by simp) rfl)
                  have e31 : b.tmps[31]? = some (.agg #[.int .i64 xj.k, .string xj.n, .slice xj.an xj.ln xj.cn, .slice xj.ak xj.lk xj.ck]) := hF.up 5 31 rfl (hdeps ⟨5, .data⟩ (by simp) rfl)
                  refine QJ.call (x := x) (f := 58) (args := #[.agg #[.int .i64 c.k, .string c.n, .slice c.an c.ln c.cn, .slice c.ak c.lk c.ck, .slice a1 s.types.length c1, .slice a2 s.sigs.length c2], .agg #[.int .i64 xj.k, .string xj.n, .slice xj.an xj.ln xj.cn, .slice xj.ak xj.lk xj.ck]]) hsz hC hi hF (Slots.of (by rfl)) rfl (wanted_none rfl) (by simp [execOp, go_sem, e26, e31]) (HIH.out j hj xj v (fun g hg => Nat.lt_of_lt_of_le (HSS.out g hg) (by have := hM.size; omega)) (HV.out.keep (fun g hg => (hM.block g (by have := HSS.out g hg; omega)).trans (H.out.below.block g (HSS.out g hg)))) (HXJ.out.keep (fun _ h => h) (fun g hg => (hM.block g (by have := HSS.out g hg; omega)).trans (H.out.below.block g (HSS.out g hg))))) ?_
                  rintro e w' ⟨rfl, hb⟩
                  exact ⟨(), rfl, fun _ _ => rfl, hM.trans (hb.mono hM.size)⟩
              · intro listed b W4 hJ hr
                obtain ⟨hsz, hC, x, hF, hM⟩ := hJ
                have hall := all_upB (by rfl) hsz hr
                have hb : b = putAll _ _ _ 7 := hF.done (Slots.of (by rfl)) hall
                subst hb
                simp only [putAll]
                simp [dstOf, Act.put]
                have hb4 := H.out.below.trans (hM.mono H.out.below.size)
                have hs4 := (hM.block w.heap.size (by omega)).trans H.out.sbox
                have ht4 := (hM.block (w.heap.size + 1) (by omega)).trans H.out.tbox
                have hz4 := hM.size
                have HB4 := Lib.hid hb4; have HS4 := Lib.hid hs4; have HT4 := Lib.hid ht4
                clear hM hF hC hall hr hsz hb4 hs4 ht4
                cases hne : nestR s.types ks[j]
                · have hr2 : nestsR s.types (ks.drop (j + 1)) = B := by have := HRR.out; rw [hne, Bool.false_or] at this; exact this
                  have HRN := Lib.hid hr2
                  clear hr2 hne
                  go_wp2
                  go_roundw
                  case rel => exact ⟨j + 1, by go_num, by omega, HRN.out, HS4.out, HT4.out, by omega, HB4.out⟩
                  case measure => simp [intOf]; omega
                · have hr2 : B = true := by have := HRR.out; rw [hne, Bool.true_or] at this; exact this.symm
                  have HRN := Lib.hid hr2
                  clear hr2 hne
                  go_wp2
                  go_ret
                  exact ⟨ret_boolZ HRN.out.symm, HB4.out⟩
            · have hjz : ¬ (j : Int) < (ks.length : Int) := by omega
              have hr2 : B = false := by rw [← H.out.rest, List.drop_of_length_le (by omega), nestsR]
              have HRN := Lib.hid hr2
              clear hr2
              go_wp2
              go_ret
              exact ⟨ret_boolZ HRN.out.symm, H.out.below⟩
    · have t6 : (k == 6) = false := by rw [beq_eq_false_iff_ne]; exact h6
      have hr2 : nestsR s.types (ks.drop 0) = B := by rw [← hB, show decide (k = 6) = false by simpa using h6, Bool.false_and, Bool.false_or]; rfl
      have HR2 := Lib.hid hr2
      clear hr2 hB hko
      obtain ⟨⟨p0, p1, p2, p3⟩, _⟩ := four_blk HT0.out
      go_enter Try.func58, Try.ntmps58
      go_upto_region 1 with fail
      rw [← HW0.out]
      go_quiet (fail)
      have HS2 : Hid (∀ nq : Nat, (W0.drewN nq).heap[w.heap.size]? = some (.cells #[.int .i64 c.k, .string c.n, .slice c.an c.ln c.cn, .slice c.ak c.lk c.ck, .slice a1 s.types.length c1, .slice a2 s.sigs.length c2] 35 (0, 0))) := fun _ => HS0.out
      have HT2 : Hid (∀ nq : Nat, (W0.drewN nq).heap[w.heap.size + 1]? = some (.cells #[.int .i64 k, .string ⟨nm.toArray⟩, .slice an ns.length cn, .slice ak ks.length ck] 31 (0, 0))) := fun _ => HT0.out
      have HB2 : Hid (∀ nq : Nat, Below w.heap.size w (W0.drewN nq)) := fun _ => below_dNZ HB0.out _
      have hz2 : ∀ nq : Nat, w.heap.size + 2 ≤ (W0.drewN nq).heap.size := fun _ => Nat.le_of_eq hz0.symm
      clear p0 p1 p2 p3
      go_wp2_with fail
      go_loopw [5] (fun v5 wr => ∃ j, OpsR w #[.int .i64 c.k, .string c.n, .slice c.an c.ln c.cn, .slice c.ak c.lk c.ck, .slice a1 s.types.length c1, .slice a2 s.sigs.length c2] #[.int .i64 k, .string ⟨nm.toArray⟩, .slice an ns.length cn, .slice ak ks.length ck] s.types B ks v5 wr j) (fun v5 _ => ks.length - (intOf v5).toNat)
      case atStart => exact ⟨0, rfl, Nat.zero_le _, HR2.out, HS2.out _, HT2.out _, hz2 _, HB2.out _⟩
      case round =>
        obtain ⟨j, h⟩ := hrel
        obtain rfl := h.slot
        have hle := h.le
        have hzr := h.size
        obtain ⟨⟨t0, t1, t2, t3⟩, _⟩ := four_blk h.tbox
        have H := Lib.hid h
        clear h
        by_cases hj : j < ks.length
        · have hjz : (j : Int) < (ks.length : Int) := by omega
          have hj0 : (0 : Int) ≤ (j : Int) := by omega
          have hju : j < vs.length := by rw [HKL.out]; exact hj
          obtain ⟨g, o, rfl, hg, hc⟩ := four_at HKR.out HSS.out j hju
          skip
          have hxv := HU.out j hj hju
          generalize vs[j] = xj at *
          have HCJ := Lib.hid hc; have HXJ := Lib.hid hxv
          have hrest := H.out.rest
          rw [nestsR_drop hj] at hrest
          have HRR := Lib.hid hrest
          clear hc hrest hxv
          go_wp2_with fail
          refine wp_region_by (QJ (fun (_ : Unit) i => match i with | 0 => .agg #[.int .i64 c.k, .string c.n, .slice c.an c.ln c.cn, .slice c.ak c.lk c.ck, .slice a1 s.types.length c1, .slice a2 s.sigs.length c2] | 1 => .pointer (some ⟨w.heap.size + 1, 3, none⟩) | 2 => .slice (some ⟨g, o, none⟩) ks.length ck | 3 => .int .i64 j | 4 => .pointer (some ⟨g, o + j * 4, none⟩) | 5 => .agg #[.int .i64 xj.k, .string xj.n, .slice xj.an xj.ln xj.cn, .slice xj.ak xj.lk xj.ck] | 6 => .bool (nestR s.types ks[j]) | _ => undef) (fun (_ : Unit) _ v => Below wr.heap.size wr v)) (by kernel_rfl) ?_ ?_ ?_
          · exact ⟨by simp, Closed.start _, (), Fr.start _ _ _, Below.drew (Below.refl _ _)⟩
          · intro listed b v q hJ hi
            obtain ⟨hsz, hC, x, hF, hM⟩ := hJ
            obtain ⟨hl1, hiN⟩ := not_up hsz hi
            obtain ⟨_, o, ho, hdeps⟩ := mem_ready.1 hi
            have hiN : q < 7 := hiN
            obtain rfl | rfl | rfl | rfl | rfl | rfl | rfl : q = 0 ∨ q = 1 ∨ q = 2 ∨ q = 3 ∨ q = 4 ∨ q = 5 ∨ q = 6 := by omega
            · cases ho
              obtain ⟨⟨y0, y1, y2, y3, y4, y5⟩, _⟩ := six_blkF ((hM.block w.heap.size (by omega)).trans H.out.sbox)
              have e2 := hF.old_is 2 (by rfl) rfl
              refine QJ.quiet (x := x) hsz hC hi hF (Slots.of (by rfl)) rfl (wanted_none rfl) hM ?_
              show _ = Result.ok (Next.value (.agg #[.int .i64 c.k, .string c.n, .slice c.an c.ln c.cn, .slice c.ak c.lk c.ck, .slice a1 s.types.length c1, .slice a2 s.sigs.length c2])) v
              simp [execOp, go_sem, e2, y0, y1, y2, y3, y4, y5]
            · cases ho
              have e3 := hF.old_is 3 (by rfl) rfl
              refine QJ.quiet (x := x) hsz hC hi hF (Slots.of (by rfl)) rfl (wanted_none rfl) hM ?_
              show _ = Result.ok (Next.value (.pointer (some ⟨w.heap.size + 1, 3, none⟩))) v
              simp [execOp, go_sem, e3]
            · cases ho
              obtain ⟨⟨y0, y1, y2, y3⟩, _⟩ := four_blk ((hM.block (w.heap.size + 1) (by omega)).trans H.out.tbox)
              have e27 : b.tmps[27]? = some (.pointer (some ⟨w.heap.size + 1, 3, none⟩)) := hF.up 1 27 rfl (hdeps ⟨1, .data⟩ (by simp) rfl)
              refine QJ.quiet (x := x) hsz hC hi hF (Slots.of (by rfl)) rfl (wanted_none rfl) hM ?_
              show _ = Result.ok (Next.value (.slice (some ⟨g, o, none⟩) ks.length ck)) v
              simp [execOp, go_sem, e27, y3]
            · cases ho
              have e5 := hF.old_is 5 (by rfl) rfl
              refine QJ.quiet (x := x) hsz hC hi hF (Slots.of (by rfl)) rfl (wanted_none rfl) hM ?_
              show _ = Result.ok (Next.value (.int .i64 j)) v
              simp [execOp, go_sem, e5]
            · cases ho
              have e28 : b.tmps[28]? = some (.slice (some ⟨g, o, none⟩) ks.length ck) := hF.up 2 28 rfl (hdeps ⟨2, .data⟩ (by simp) rfl)
              have e29 : b.tmps[29]? = some (.int .i64 j) := hF.up 3 29 rfl (hdeps ⟨3, .data⟩ (by simp) rfl)
              refine QJ.quiet (x := x) hsz hC hi hF (Slots.of (by rfl)) rfl (wanted_none rfl) hM ?_
              show _ = Result.ok (Next.value (.pointer (some ⟨g, o + j * 4, none⟩))) v
              simp [execOp, go_sem, e28, e29, hj0, hjz]
            · cases ho
              obtain ⟨y0, y1, y2, y3⟩ := HCJ.out v (fun i hi => (hM.block i (by omega)).trans (H.out.below.block i hi))
              have e30 : b.tmps[30]? = some (.pointer (some ⟨g, o + j * 4, none⟩)) := hF.up 4 30 rfl (hdeps ⟨4, .data⟩ (by simp) rfl)
              refine QJ.quiet (x := x) hsz hC hi hF (Slots.of (by rfl)) rfl (wanted_none rfl) hM ?_
              show _ = Result.ok (Next.value (.agg #[.int .i64 xj.k, .string xj.n, .slice xj.an xj.ln xj.cn, .slice xj.ak xj.lk xj.ck])) v
              simp [execOp, go_sem, e30, y0, y1, y2, y3]
            · cases ho
              have e26 : b.tmps[26]? = some (.agg #[.int .i64 c.k, .string c.n, .slice c.an c.ln c.cn, .slice c.ak c.lk c.ck, .slice a1 s.types.length c1, .slice a2 s.sigs.length c2]) := hF.up 0 26 rfl (hdeps ⟨0, .data⟩ (by simp) rfl)
              have e31 : b.tmps[31]? = some (.agg #[.int .i64 xj.k, .string xj.n, .slice xj.an xj.ln xj.cn, .slice xj.ak xj.lk xj.ck]) := hF.up 5 31 rfl (hdeps ⟨5, .data⟩ (by simp) rfl)
              refine QJ.call (x := x) (f := 58) (args := #[.agg #[.int .i64 c.k, .string c.n, .slice c.an c.ln c.cn, .slice c.ak c.lk c.ck, .slice a1 s.types.length c1, .slice a2 s.sigs.length c2], .agg #[.int .i64 xj.k, .string xj.n, .slice xj.an xj.ln xj.cn, .slice xj.ak xj.lk xj.ck]]) hsz hC hi hF (Slots.of (by rfl)) rfl (wanted_none rfl) (by simp [execOp, go_sem, e26, e31]) (HIH.out j hj xj v (fun g hg => Nat.lt_of_lt_of_le (HSS.out g hg) (by have := hM.size; omega)) (HV.out.keep (fun g hg => (hM.block g (by have := HSS.out g hg; omega)).trans (H.out.below.block g (HSS.out g hg)))) (HXJ.out.keep (fun _ h => h) (fun g hg => (hM.block g (by have := HSS.out g hg; omega)).trans (H.out.below.block g (HSS.out g hg))))) ?_
              rintro e w' ⟨rfl, hb⟩
              exact ⟨(), rfl, fun _ _ => rfl, hM.trans (hb.mono hM.size)⟩
          · intro listed b W4 hJ hr
            obtain ⟨hsz, hC, x, hF, hM⟩ := hJ
            have hall := all_upB (by rfl) hsz hr
            have hb : b = putAll _ _ _ 7 := hF.done (Slots.of (by rfl)) hall
            subst hb
            simp only [putAll]
            simp [dstOf, Act.put]
            have hb4 := H.out.below.trans (hM.mono H.out.below.size)
            have hs4 := (hM.block w.heap.size (by omega)).trans H.out.sbox
            have ht4 := (hM.block (w.heap.size + 1) (by omega)).trans H.out.tbox
            have hz4 := hM.size
            have HB4 := Lib.hid hb4; have HS4 := Lib.hid hs4; have HT4 := Lib.hid ht4
            clear hM hF hC hall hr hsz hb4 hs4 ht4
            cases hne : nestR s.types ks[j]
            · have hr2 : nestsR s.types (ks.drop (j + 1)) = B := by have := HRR.out; rw [hne, Bool.false_or] at this; exact this
              have HRN := Lib.hid hr2
              clear hr2 hne
              go_wp2
              go_roundw
              case rel => exact ⟨j + 1, by go_num, by omega, HRN.out, HS4.out, HT4.out, by omega, HB4.out⟩
              case measure => simp [intOf]; omega
            · have hr2 : B = true := by have := HRR.out; rw [hne, Bool.true_or] at this; exact this.symm
              have HRN := Lib.hid hr2
              clear hr2 hne
              go_wp2
              go_ret
              exact ⟨ret_boolZ HRN.out.symm, HB4.out⟩
        · have hjz : ¬ (j : Int) < (ks.length : Int) := by omega
          have hr2 : B = false := by rw [← H.out.rest, List.drop_of_length_le (by omega), nestsR]
          have HRN := Lib.hid hr2
          clear hr2
          go_wp2
          go_ret
          exact ⟨ret_boolZ HRN.out.symm, H.out.below⟩
theorem opts_all (S : Nat → Prop) (s : Sz) (c : C4) (a1 a2 : Option Addr) (us : List (List UInt8 × C4)) (gs : List (List UInt8 × G6)) (c1 c2 : Nat) (hl : s.types.length ≤ 1000000) : ∀ (N : Nat) (t : Tz), sizeZ t ≤ N → fitZ t = true → kidsOk t = true → OptP S s c a1 a2 us gs c1 c2 t
  | 0, .mk k n ns ks, h, _, _ => by simp only [sizeZ] at h; omega
  | N + 1, .mk k n ns ks, h, hf, hk => by
    obtain ⟨_, _, _, h4, h5⟩ := fitZ_mk hf
    have hk2 : kidsOks ks = true := by rw [kidsOk] at hk; simp only [Bool.and_eq_true] at hk; exact hk.2
    exact opts_step S s c a1 a2 us gs c1 c2 hl k n ns ks hk h4 fun i hi => opts_all S s c a1 a2 us gs c1 c2 hl N ks[i] (by have := sizeZ_mem ks i hi; simp only [sizeZ] at h; omega) (fitZs_mem ks h5 i hi) (kidsOks_mem ks hk2 i hi)
theorem opts_ref (S : Nat → Prop) (s : Sz) (c : C4) (a1 a2 : Option Addr) (us : List (List UInt8 × C4)) (gs : List (List UInt8 × G6)) (c1 c2 : Nat) (hl : s.types.length ≤ 1000000) (t : Tz) (hf : fitZ t = true) (hk : kidsOk t = true) : OptP S s c a1 a2 us gs c1 c2 t := opts_all S s c a1 a2 us gs c1 c2 hl _ t (Nat.le_refl _) hf hk
end Sp
end Go.Proofs.Yteooafgdmpbjeab
