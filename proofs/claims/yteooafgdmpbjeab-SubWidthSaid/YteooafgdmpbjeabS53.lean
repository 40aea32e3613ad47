/- SubWidth: its walk. Written by gen_lwid.py. -/
import Derived.Test.YteooafgdmpbjeabS51
import Derived.Test.YteooafgdmpbjeabS52
import Derived.Test.YteooafgdmpbjeabS42
import Derived.Test.YteooafgdmpbjeabS44
namespace Go.Proofs.Yteooafgdmpbjeab
open Go.RowKit
namespace Sp
open Sc
set_option maxRecDepth 100000
def hasJ (g : Nat → Int) (k j : Nat) : Bool := (List.range j).any fun i => decide (g i % 8 = (k : Int))
theorem hasJ_succ (g : Nat → Int) (k j : Nat) : hasJ g k (j + 1) = (hasJ g k j || decide (g j % 8 = (k : Int))) := by simp [hasJ, List.range_succ]
def widF (g : Nat → Int) (m : Nat) (k : Nat) : Bool := hasJ g k m
theorem let_cut : ∀ k : Nat, k < 8 → (ByteArray.mk #[97, 98, 99, 100, 101, 102, 103, 104]).extract k (k + 1) = ⟨#[letB k]⟩ := by
  intro k hk
  obtain rfl | rfl | rfl | rfl | rfl | rfl | rfl | rfl : k = 0 ∨ k = 1 ∨ k = 2 ∨ k = 3 ∨ k = 4 ∨ k = 5 ∨ k = 6 ∨ k = 7 := by omega
  all_goals kernel_rfl
theorem widL_len (f : Nat → Bool) (n : Nat) : (widL f n).length ≤ n := by
  have := List.length_filter_le f (List.range n)
  rwa [List.length_range] at this
theorem drop_at {v : World} {ns : List Value} {gn c xc kk : Nat} {a10 : Addr} (hl : ns.length = c) (hcc : c ≤ xc) (hkc : kk < c) (hcv : ∀ j u, ns[j]? = some u → v.cell? ((⟨gn, 0, none⟩ : Addr).add j) = some u) (ha : a10 = if xc = kk + 1 then ⟨gn, 0, none⟩ else ⟨gn, kk + 1, none⟩) :
    ∀ j u, (ns.drop (kk + 1))[j]? = some u → v.cell? (a10.add j) = some u := by
  intro j u hu
  rw [List.getElem?_drop] at hu
  have hj := (List.getElem?_eq_some_iff.1 hu).1
  have q := hcv _ u hu
  rw [addr_addZ] at q
  rw [ha, if_neg (by omega)]
  unfold Addr.add
  split
  · rename_i h; rw [h] at q; exact q
  · exact q
theorem own_kp2 {W : World} {b base sz n : Nat} {e : TypeId} {v : Value} {xs : List Value} (h : W.ownsRow base e sz v n xs) (hb : b ≤ base) : W.ownsRow b e sz v n xs := by
  rcases h.2 with ⟨rfl, h0⟩ | ⟨g, cap, cur, rfl, hg, hc, hr⟩
  · exact ⟨h.1, .inl ⟨rfl, h0⟩⟩
  · exact ⟨h.1, .inr ⟨g, cap, cur, rfl, Nat.le_trans hb hg, hc, hr⟩⟩
structure WdR (W1 : World) (tb q : Nat) (f : Nat → Bool) (sv : Value) (wr : World) (k : Nat) (xn xk : Value) : Prop where
  slot : sv = .int .i64 k
  le : k ≤ 8
  tat : wr.heap[tb]? = some (.cells #[.int .i64 (7 + q : Nat), .string ⟨#[]⟩, xn, xk] 31 (0, 0))
  names : wr.ownsRow (tb + 1) 9 1 xn (widL f k).length (wdN (widL f k))
  kids : wr.ownsRow (tb + 1) 31 4 xk (widL f k).length (wdK (widL f k))
  apart : ApartV xn xk
  below : Below tb W1 wr
set_option maxHeartbeats 8000000 in
theorem SubWidth_any (ad : Option Addr) (len cap : Nat) (g : Nat → Int) (dr kd : Int) (w : World) (hlen : len ≤ 9223372036854775807)
    (hI : ∀ j, j < len → ∃ bb off, ad = some ⟨bb, off, none⟩ ∧ bb < w.heap.size ∧ w.cell? ⟨bb, off + j, none⟩ = some (.int .i64 (g j)) ∧ -9223372036854775808 ≤ g j ∧ g j ≤ 9223372036854775807)
    (h1 : -9223372036854775808 ≤ dr) (h2 : dr ≤ 9223372036854775807) :
    Calls Try.prog 3 #[.slice ad len cap, .int .i64 dr, .int .i64 kd] w fun e w' => e = .returned (.bool true) ∧ Below w.heap.size w w' := by
  obtain ⟨is, his, js, ks, ls⟩ := info_parts infoS
  obtain ⟨ik, hik, jk, kk, lk⟩ := info_parts infoTz
  have HIs := Lib.hid his; have HJs := Lib.hid js; have HKs := Lib.hid ks; have HLs := Lib.hid ls
  have HIk := Lib.hid hik; have HJk := Lib.hid jk; have HKk := Lib.hid kk; have HLk := Lib.hid lk
  have HI := Lib.hid hI
  clear his js ks ls hik jk kk lk hI
  obtain ⟨qd, hq, hq2⟩ : ∃ qd : Nat, (qd = if kd.tmod 2 = 1 then 1 else 0) ∧ qd < 2 := ⟨if kd.tmod 2 = 1 then 1 else 0, rfl, by split <;> omega⟩
  have HQ := Lib.hid hq
  clear hq
  go_enter Try.func3, Try.ntmps3
  go_wp2_with (go_at_call 8; (with_reducible refine (known6_any _).mono ?_); rintro e w1 ⟨rfl, x1⟩; have hz1 := x1.size; have HX1 := Lib.hid x1; clear x1)
  go_upto_region 4 with (go_at_call 9; (refine (newI_any _).mono ?_); rintro e w2 ⟨tbl, rb, nb, mb, sb, ty, nu, vs, rfl, s2, x2⟩; have hz2 := x2.size; have HS2 := Lib.hid s2; have HX2 := Lib.hid (HX1.out.trans (x2.mono hz1)); clear s2 x2)
  go_upto_region 5 with fail
  obtain ⟨tb, htb⟩ : ∃ tb, tb = w2.heap.size := ⟨_, rfl⟩
  obtain ⟨W3, hW3⟩ : ∃ W3, W3 = w2.alloc (.cells #[.int .i64 7, .string ⟨#[]⟩, .slice none 0 0, .slice none 0 0] 31) := ⟨_, rfl⟩
  have hz3 : W3.heap.size = tb + 1 := by rw [hW3, htb]; simp
  have hb3 : Below tb w2 W3 := by rw [hW3, htb]; exact (Below.refl _ _).alloc (Nat.le_refl _) _
  have ht3 : W3.heap[tb]? = some (.cells #[.int .i64 7, .string ⟨#[]⟩, .slice none 0 0, .slice none 0 0] 31 (0, 0)) := by rw [hW3, htb]; exact heap_alloc_new w2 _
  rw [← hW3, ← htb]
  have hwt : w.heap.size ≤ tb := by omega
  have htl : tb < W3.heap.size := by omega
  obtain ⟨⟨t0, t1, t2, t3⟩, ⟨f0, f1, f2, f3⟩⟩ := four_blk ht3
  have HT3 := Lib.hid ht3; have HB3 := Lib.hid hb3; have HTB := Lib.hid htb; have HZ3 := Lib.hid hz3
  clear hW3 ht3 hb3 htb hz3 hz1 hz2
  go_upto_if 41 with fail
  go_cut [] (fun wx => wx.heap[tb]? = some (.cells #[.int .i64 (7 + qd : Nat), .string ⟨#[]⟩, .slice none 0 0, .slice none 0 0] 31 (0, 0)) ∧ Below tb W3 wx)
  case first =>
    by_cases hk1 : kd.tmod 2 = 1
    · have tq : (kd.tmod 2 == 1) = true := by simpa using hk1
      go_wp2
      go_meet
      case rel =>
        have e := HQ.out
        rw [if_pos hk1] at e
        subst e
        exact ⟨by unfold World.setCell; simp [Array.getElem?_modify, HT3.out], below_set _ _ (Nat.le_refl _) (by omega)⟩
    · have tq : (kd.tmod 2 == 1) = false := by simpa using hk1
      go_wp2
      go_meet
      case rel =>
        have e := HQ.out
        rw [if_neg hk1] at e
        subst e
        exact ⟨HT3.out, Below.refl _ _⟩
  case rest =>
    obtain ⟨ht4, hb4⟩ := hcut
    have hz4 := hb4.size
    have hwt2 : w.heap.size ≤ tb := hwt
    have HB4 := Lib.hid (HB3.out.trans hb4)
    clear t0 t1 t2 t3 f0 f1 f2 f3 HT3
    obtain ⟨m, hm⟩ : ∃ m : Nat, m = min len 20 := ⟨_, rfl⟩
    obtain ⟨f, hf⟩ : ∃ f : Nat → Bool, f = widF g m := ⟨_, rfl⟩
    have HF := Lib.hid hf; have HMM := Lib.hid hm; have HT4 := Lib.hid ht4
    clear hf hm ht4
    go_wp2
    go_loopw [11] (fun kv wr => ∃ k x y, WdR wc tb qd f kv wr k x y) (fun kv _ => 8 - (intOf kv).toNat)
    case atStart => exact ⟨0, .slice none 0 0, .slice none 0 0, rfl, by omega, HT4.out, World.ownsRow_nil _ _ _ _, World.ownsRow_nil _ _ _ _, (fun g h => by cases h), Below.refl _ _⟩
    case round =>
      obtain ⟨k, x, y, h⟩ := hrel
      obtain rfl := h.slot
      have hk := h.le
      have hwr := h.below.size
      by_cases hlt : k < 8
      · have hkz : (k : Int) < 8 := by omega
        have H := Lib.hid h
        have HALLW := Lib.hid (HX2.out.trans ((HB4.out.trans h.below).mono hwt2))
        clear h
        go_wp2
        go_loopw [12, 13] (fun bv iv wx => ∃ j, j ≤ len ∧ j ≤ 20 ∧ iv = .int .i64 (j : Nat) ∧ bv = .bool (hasJ g k j) ∧ wr = wx) (fun _ iv _ => len - (intOf iv).toNat)
        case atStart => exact ⟨0, Nat.zero_le _, by omega, rfl, rfl, rfl⟩
        case round =>
          obtain ⟨j, hj, hj20, rfl, rfl, rfl⟩ := hrel
          by_cases hjl : j < len
          · by_cases h20 : j < 20
            · have hjz : (j : Int) < (len : Int) := by omega
              have hj2 : (j : Int) < 20 := by omega
              cases hb : hasJ g k j with
              | true =>
                go_wp2
                go_roundw
                case rel => exact ⟨j + 1, by omega, by omega, by go_num, by simp [hasJ_succ, hb], by simp⟩
                case measure => simp [intOf]; omega
              | false =>
                obtain ⟨bb, off, rfl, hbl, hcj, gl, gu⟩ := HI.out j hjl
                have hcl := (HALLW.out.cell (p := ⟨bb, off + j, none⟩) hbl).trans hcj
                obtain ⟨n, hn⟩ : ∃ n : Nat, g j % 8 = n := ⟨(g j % 8).toNat, by omega⟩
                have hbw : bb < wr.heap.size := by have := HALLW.out.size; omega
                have hsc : hasJ g k (j + 1) = decide (n = k) := by rw [hasJ_succ, hb, hn, Bool.false_or]; exact decide_eq_decide.2 (by omega)
                have CW := fun W => within6_is (g j) 8 W n (by omega) (by omega) gl gu hn
                have hn8 : n < 8 := by omega
                have HCW := Lib.hid CW; have HSC := Lib.hid hsc
                generalize g j = gj at *
                clear CW hsc hn hcj
                by_cases hnk : n = k
                · have tb1 : ((n : Int) == (k : Int)) = true := by simp; omega
                  go_wp2_with (go_at_call 10; (refine (HCW.out _).mono ?_); rintro e w' ⟨rfl, rfl⟩)
                  go_roundw
                  case rel => exact ⟨j + 1, by omega, by omega, by go_num, by simp [HSC.out, hnk], by simp⟩
                  case measure => simp [intOf]; omega
                · have tb1 : ((n : Int) == (k : Int)) = false := by simp; omega
                  go_wp2_with (go_at_call 10; (refine (HCW.out _).mono ?_); rintro e w' ⟨rfl, rfl⟩)
                  go_roundw
                  case rel => exact ⟨j + 1, by omega, by omega, by go_num, by simp [HSC.out, hnk], by simp⟩
                  case measure => simp [intOf]; omega
            · obtain rfl : j = 20 := by omega
              have hjz : ((20 : Nat) : Int) < (len : Int) := by omega
              have hfk : hasJ g k 20 = f k := by rw [HF.out, HMM.out, show min len 20 = 20 by omega]; rfl
              rw [hfk]
              cases hf1 : f k with
              | false =>
                go_wp2
                go_roundw
                case rel => exact ⟨k + 1, x, y, by go_num, by omega, H.out.tat, by rw [widL_succ, hf1]; exact H.out.names, by rw [widL_succ, hf1]; exact H.out.kids, H.out.apart, H.out.below⟩
                case measure => simp [intOf]; omega
              | true =>
                go_upto_region 17 with fail
                obtain ⟨xa, xc, rfl⟩ := own_sliceZ H.out.names
                obtain ⟨ya, yc, rfl⟩ := own_sliceZ H.out.kids
                have hc8 := widL_len f k
                have hN0 := H.out.names
                have hK0 := H.out.kids
                have hA0 := H.out.apart
                have hT0 := H.out.tat
                obtain ⟨c, hc⟩ : ∃ c, (widL f k).length = c := ⟨_, rfl⟩
                rw [hc] at hc8 hN0 hK0 hA0 hT0
                obtain ⟨ns, hns⟩ : ∃ ns, wdN (widL f k) = ns := ⟨_, rfl⟩
                obtain ⟨ks, hks⟩ : ∃ ks, wdK (widL f k) = ks := ⟨_, rfl⟩
                rw [hns] at hN0
                rw [hks] at hK0
                have hcut := let_cut k hlt
                have hk0 : (0 : Int) ≤ (k : Int) := by omega
                have hwk : IntKind.i64.wrap ((k : Int) + 1) = (k : Int) + 1 := IntWalk.i64_in _ (by omega)
                have hk1 : (k : Int) ≤ (k : Int) + 1 := by omega
                have hk2 : (k : Int) + 1 ≤ 8 := by omega
                refine wp_region_by (QJ (fun (x : Tw) qq => match qq with | 0 => .pointer (some ⟨tb, 2, none⟩) | 1 => .slice xa c xc | 2 => .string ⟨#[97, 98, 99, 100, 101, 102, 103, 104]⟩ | 3 => .int .i64 (k : Nat) | 4 => .int .i64 (k : Nat) | 5 => .int .i64 ((k : Nat) + 1) | 6 => .string ⟨#[letB k]⟩ | 7 => x.tn | 8 => x.an | 9 => .pointer (some ⟨tb, 3, none⟩) | 10 => .slice ya c yc | 11 => .agg #[.int .i64 1, .string ⟨#[]⟩, .slice none 0 0, .slice none 0 0] | 12 => x.tk | 13 => x.ak | 14 => .pointer (some ⟨tb, 2, none⟩) | 15 => undef | 16 => .pointer (some ⟨tb, 3, none⟩) | 17 => undef | _ => undef) (fun x listed v => TwM wr.drew tb tb (tb + 1) (7 + qd : Nat) c (.slice xa c xc) (.slice ya c yc) ns ks [.string ⟨#[letB k]⟩] cB.cells (listed.getD 7 false) (listed.getD 8 false) (listed.getD 12 false) (listed.getD 13 false) (listed.getD 15 false) (listed.getD 17 false) x v)) (by kernel_rfl) ?_ ?_ ?_
                · exact ⟨by simp, Closed.start _, ⟨undef, undef, undef, undef⟩, Fr.start _ _ _, by simp only [rep_getDL]; exact TwM.start (W0 := wr.drew) hN0 hK0 hA0 hT0 (Nat.lt_succ_self _) (Nat.le_refl _) _⟩
                · intro listed b v q hJ hi
                  obtain ⟨hsz, hC, x, hF, hM⟩ := hJ
                  have hMb : TwM wr.drew tb tb (tb + 1) (7 + qd : Nat) c (.slice xa c xc) (.slice ya c yc) ns ks [.string ⟨#[letB k]⟩] cB.cells (listed.getD 7 false) (listed.getD 8 false) (listed.getD 12 false) (listed.getD 13 false) (listed.getD 15 false) (listed.getD 17 false) x v := hM
                  obtain ⟨hl1, hiN⟩ := not_up hsz hi
                  obtain ⟨_, o, ho, hdeps⟩ := mem_ready.1 hi
                  have hiN : q < 18 := hiN
                  obtain rfl | rfl | rfl | rfl | rfl | rfl | rfl | rfl | rfl | rfl | rfl | rfl | rfl | rfl | rfl | rfl | rfl | rfl : q = 0 ∨ q = 1 ∨ q = 2 ∨ q = 3 ∨ q = 4 ∨ q = 5 ∨ q = 6 ∨ q = 7 ∨ q = 8 ∨ q = 9 ∨ q = 10 ∨ q = 11 ∨ q = 12 ∨ q = 13 ∨ q = 14 ∨ q = 15 ∨ q = 16 ∨ q = 17 := by omega
                  · cases ho
                    have e9 := hF.old_is 9 (by rfl) rfl
                    refine QJ.quiet (x := x) hsz hC hi hF (Slots.of (by rfl)) rfl (wanted_none rfl) (show TwM wr.drew tb tb (tb + 1) (7 + qd : Nat) c (.slice xa c xc) (.slice ya c yc) ns ks [.string ⟨#[letB k]⟩] cB.cells ((listed.setIfInBounds 0 true).getD 7 false) ((listed.setIfInBounds 0 true).getD 8 false) ((listed.setIfInBounds 0 true).getD 12 false) ((listed.setIfInBounds 0 true).getD 13 false) ((listed.setIfInBounds 0 true).getD 15 false) ((listed.setIfInBounds 0 true).getD 17 false) x v by rw [getD_setN (show 0 ≠ 7 by decide), getD_setN (show 0 ≠ 8 by decide), getD_setN (show 0 ≠ 12 by decide), getD_setN (show 0 ≠ 13 by decide), getD_setN (show 0 ≠ 15 by decide), getD_setN (show 0 ≠ 17 by decide)]; exact hMb) ?_
                    show _ = Result.ok (Next.value (.pointer (some ⟨tb, 2, none⟩))) v
                    simp [execOp, go_sem, e9]
                  · cases ho
                    have l15 : listed.getD 15 false = false := by
                      cases hh : listed.getD 15 false
                      · rfl
                      · have y0 := hC 15 _ rfl hh ⟨1, .phase⟩ (by simp) rfl; rw [hl1] at y0; cases y0
                    have tt := hMb.tat
                    rw [l15, if_neg (show ¬ (false = true) by decide)] at tt
                    obtain ⟨⟨z0, z1, z2, z3⟩, -⟩ := four_blk tt
                    have e68 : b.tmps[68]? = some (.pointer (some ⟨tb, 2, none⟩)) := hF.up 0 68 rfl (hdeps ⟨0, .data⟩ (by simp) rfl)
                    refine QJ.quiet (x := x) hsz hC hi hF (Slots.of (by rfl)) rfl (wanted_none rfl) (show TwM wr.drew tb tb (tb + 1) (7 + qd : Nat) c (.slice xa c xc) (.slice ya c yc) ns ks [.string ⟨#[letB k]⟩] cB.cells ((listed.setIfInBounds 1 true).getD 7 false) ((listed.setIfInBounds 1 true).getD 8 false) ((listed.setIfInBounds 1 true).getD 12 false) ((listed.setIfInBounds 1 true).getD 13 false) ((listed.setIfInBounds 1 true).getD 15 false) ((listed.setIfInBounds 1 true).getD 17 false) x v by rw [getD_setN (show 1 ≠ 7 by decide), getD_setN (show 1 ≠ 8 by decide), getD_setN (show 1 ≠ 12 by decide), getD_setN (show 1 ≠ 13 by decide), getD_setN (show 1 ≠ 15 by decide), getD_setN (show 1 ≠ 17 by decide)]; exact hMb) ?_
                    show _ = Result.ok (Next.value (.slice xa c xc)) v
                    simp [execOp, go_sem, e68, z2]
                  · cases ho
                    have e10 := hF.old_is 10 (by rfl) rfl
                    refine QJ.quiet (x := x) hsz hC hi hF (Slots.of (by rfl)) rfl (wanted_none rfl) (show TwM wr.drew tb tb (tb + 1) (7 + qd : Nat) c (.slice xa c xc) (.slice ya c yc) ns ks [.string ⟨#[letB k]⟩] cB.cells ((listed.setIfInBounds 2 true).getD 7 false) ((listed.setIfInBounds 2 true).getD 8 false) ((listed.setIfInBounds 2 true).getD 12 false) ((listed.setIfInBounds 2 true).getD 13 false) ((listed.setIfInBounds 2 true).getD 15 false) ((listed.setIfInBounds 2 true).getD 17 false) x v by rw [getD_setN (show 2 ≠ 7 by decide), getD_setN (show 2 ≠ 8 by decide), getD_setN (show 2 ≠ 12 by decide), getD_setN (show 2 ≠ 13 by decide), getD_setN (show 2 ≠ 15 by decide), getD_setN (show 2 ≠ 17 by decide)]; exact hMb) ?_
                    show _ = Result.ok (Next.value (.string ⟨#[97, 98, 99, 100, 101, 102, 103, 104]⟩)) v
                    simp [execOp, go_sem, e10]
                  · cases ho
                    have e11 := hF.old_is 11 (by rfl) rfl
                    refine QJ.quiet (x := x) hsz hC hi hF (Slots.of (by rfl)) rfl (wanted_none rfl) (show TwM wr.drew tb tb (tb + 1) (7 + qd : Nat) c (.slice xa c xc) (.slice ya c yc) ns ks [.string ⟨#[letB k]⟩] cB.cells ((listed.setIfInBounds 3 true).getD 7 false) ((listed.setIfInBounds 3 true).getD 8 false) ((listed.setIfInBounds 3 true).getD 12 false) ((listed.setIfInBounds 3 true).getD 13 false) ((listed.setIfInBounds 3 true).getD 15 false) ((listed.setIfInBounds 3 true).getD 17 false) x v by rw [getD_setN (show 3 ≠ 7 by decide), getD_setN (show 3 ≠ 8 by decide), getD_setN (show 3 ≠ 12 by decide), getD_setN (show 3 ≠ 13 by decide), getD_setN (show 3 ≠ 15 by decide), getD_setN (show 3 ≠ 17 by decide)]; exact hMb) ?_
                    show _ = Result.ok (Next.value (.int .i64 (k : Nat))) v
                    simp [execOp, go_sem, e11]
                  · cases ho
                    have e11 := hF.old_is 11 (by rfl) rfl
                    refine QJ.quiet (x := x) hsz hC hi hF (Slots.of (by rfl)) rfl (wanted_none rfl) (show TwM wr.drew tb tb (tb + 1) (7 + qd : Nat) c (.slice xa c xc) (.slice ya c yc) ns ks [.string ⟨#[letB k]⟩] cB.cells ((listed.setIfInBounds 4 true).getD 7 false) ((listed.setIfInBounds 4 true).getD 8 false) ((listed.setIfInBounds 4 true).getD 12 false) ((listed.setIfInBounds 4 true).getD 13 false) ((listed.setIfInBounds 4 true).getD 15 false) ((listed.setIfInBounds 4 true).getD 17 false) x v by rw [getD_setN (show 4 ≠ 7 by decide), getD_setN (show 4 ≠ 8 by decide), getD_setN (show 4 ≠ 12 by decide), getD_setN (show 4 ≠ 13 by decide), getD_setN (show 4 ≠ 15 by decide), getD_setN (show 4 ≠ 17 by decide)]; exact hMb) ?_
                    show _ = Result.ok (Next.value (.int .i64 (k : Nat))) v
                    simp [execOp, go_sem, e11]
                  · cases ho
                    have e72 : b.tmps[72]? = some (.int .i64 (k : Nat)) := hF.up 4 72 rfl (hdeps ⟨4, .data⟩ (by simp) rfl)
                    refine QJ.quiet (x := x) hsz hC hi hF (Slots.of (by rfl)) rfl (wanted_none rfl) (show TwM wr.drew tb tb (tb + 1) (7 + qd : Nat) c (.slice xa c xc) (.slice ya c yc) ns ks [.string ⟨#[letB k]⟩] cB.cells ((listed.setIfInBounds 5 true).getD 7 false) ((listed.setIfInBounds 5 true).getD 8 false) ((listed.setIfInBounds 5 true).getD 12 false) ((listed.setIfInBounds 5 true).getD 13 false) ((listed.setIfInBounds 5 true).getD 15 false) ((listed.setIfInBounds 5 true).getD 17 false) x v by rw [getD_setN (show 5 ≠ 7 by decide), getD_setN (show 5 ≠ 8 by decide), getD_setN (show 5 ≠ 12 by decide), getD_setN (show 5 ≠ 13 by decide), getD_setN (show 5 ≠ 15 by decide), getD_setN (show 5 ≠ 17 by decide)]; exact hMb) ?_
                    show _ = Result.ok (Next.value (.int .i64 ((k : Nat) + 1))) v
                    simp [execOp, go_sem, e72, hwk]
                  · cases ho
                    have e70 : b.tmps[70]? = some (.string ⟨#[97, 98, 99, 100, 101, 102, 103, 104]⟩) := hF.up 2 70 rfl (hdeps ⟨2, .data⟩ (by simp) rfl)
                    have e71 : b.tmps[71]? = some (.int .i64 (k : Nat)) := hF.up 3 71 rfl (hdeps ⟨3, .data⟩ (by simp) rfl)
                    have e73 : b.tmps[73]? = some (.int .i64 ((k : Nat) + 1)) := hF.up 5 73 rfl (hdeps ⟨5, .data⟩ (by simp) rfl)
                    refine QJ.quiet (x := x) hsz hC hi hF (Slots.of (by rfl)) rfl (wanted_none rfl) (show TwM wr.drew tb tb (tb + 1) (7 + qd : Nat) c (.slice xa c xc) (.slice ya c yc) ns ks [.string ⟨#[letB k]⟩] cB.cells ((listed.setIfInBounds 6 true).getD 7 false) ((listed.setIfInBounds 6 true).getD 8 false) ((listed.setIfInBounds 6 true).getD 12 false) ((listed.setIfInBounds 6 true).getD 13 false) ((listed.setIfInBounds 6 true).getD 15 false) ((listed.setIfInBounds 6 true).getD 17 false) x v by rw [getD_setN (show 6 ≠ 7 by decide), getD_setN (show 6 ≠ 8 by decide), getD_setN (show 6 ≠ 12 by decide), getD_setN (show 6 ≠ 13 by decide), getD_setN (show 6 ≠ 15 by decide), getD_setN (show 6 ≠ 17 by decide)]; exact hMb) ?_
                    show _ = Result.ok (Next.value (.string ⟨#[letB k]⟩)) v
                    simp [execOp, go_sem, e70, e71, e73, hcut, hk0, hk1, hk2]
                  · cases ho
                    have e74 : b.tmps[74]? = some (.string ⟨#[letB k]⟩) := hF.up 6 74 rfl (hdeps ⟨6, .data⟩ (by simp) rfl)
                    have l8 : listed.getD 8 false = false := by
                      cases hh : listed.getD 8 false
                      · rfl
                      · have y0 := hC 8 _ rfl hh ⟨7, .data⟩ (by simp) rfl; rw [hl1] at y0; cases y0
                    have a := hMb
                    rw [hl1, l8] at a
                    refine QJ.make (v' := v.alloc (.cells #[.string ⟨#[letB k]⟩] 9)) (x := x) (x' := ⟨.slice (some ⟨v.heap.size, 0, none⟩) 1 1, x.an, x.tk, x.ak⟩) hsz hC hi hF (Slots.of (by rfl)) rfl (wanted_none rfl) (fun q hq => match q, (show q ≠ 7 by rintro rfl; rw [hl1] at hq; cases hq) with | 0, _ => rfl | 1, _ => rfl | 2, _ => rfl | 3, _ => rfl | 4, _ => rfl | 5, _ => rfl | 6, _ => rfl | 7, h => absurd rfl h | 8, _ => rfl | 9, _ => rfl | 10, _ => rfl | 11, _ => rfl | 12, _ => rfl | 13, _ => rfl | 14, _ => rfl | 15, _ => rfl | 16, _ => rfl | 17, _ => rfl | _ + 18, _ => rfl) (show TwM wr.drew tb tb (tb + 1) (7 + qd : Nat) c (.slice xa c xc) (.slice ya c yc) ns ks [.string ⟨#[letB k]⟩] cB.cells ((listed.setIfInBounds 7 true).getD 7 false) ((listed.setIfInBounds 7 true).getD 8 false) ((listed.setIfInBounds 7 true).getD 12 false) ((listed.setIfInBounds 7 true).getD 13 false) ((listed.setIfInBounds 7 true).getD 15 false) ((listed.setIfInBounds 7 true).getD 17 false) ⟨.slice (some ⟨v.heap.size, 0, none⟩) 1 1, x.an, x.tk, x.ak⟩ (v.alloc (.cells #[.string ⟨#[letB k]⟩] 9)) by rw [getD_setS (by rw [hsz]; decide), getD_setN (show 7 ≠ 8 by decide), getD_setN (show 7 ≠ 12 by decide), getD_setN (show 7 ≠ 13 by decide), getD_setN (show 7 ≠ 15 by decide), getD_setN (show 7 ≠ 17 by decide), l8]; exact a.layN) ?_
                    show _ = Result.ok (Next.value (.slice (some ⟨v.heap.size, 0, none⟩) 1 1)) _
                    simp [execOp, go_sem, e74]
                  · cases ho
                    have l7 := hdeps ⟨7, .data⟩ (by simp) rfl
                    have l1 := hdeps ⟨1, .data⟩ (by simp) rfl
                    have l15 : listed.getD 15 false = false := by
                      cases hh : listed.getD 15 false
                      · rfl
                      · have y0 := hC 15 _ rfl hh ⟨8, .data⟩ (by simp) rfl; rw [hl1] at y0; cases y0
                    have a := hMb
                    rw [l7, hl1, l15] at a
                    obtain ⟨g, t1, t2, t3, t4⟩ := a.sn.tmp rfl rfl
                    have hvz := a.size
                    have hdz : wr.drew.heap.size = wr.heap.size := rfl
                    refine wpOp_wpG rfl (wanted_none rfl) (Sh.wp_append_fresh (.tmp 69) (.tmp 75) 28 rfl (tb + 1) 9 is (.string ⟨#[]⟩) 1 16 Try.underlying28 HIs.out HJs.out HKs.out HLs.out rfl (by decide) (.slice xa c xc) c ns (hF.eval (i := 1) rfl l1) (a.sn.row rfl) ⟨g, 0, none⟩ 1 1 [.string ⟨#[letB k]⟩] ((hF.eval (i := 7) rfl l7).trans t1) rfl (fun j u hu => by rw [addr_addZ]; simp only [World.cell?, t4]; simpa using hu) (by intro z hz; simp at hz; subst hz; rfl) (by unfold maxLen; omega) (by omega) (by omega) ?_)
                    intro y w3 hown hgr hfr
                    have hx : ∀ j, listed.getD j false = true → ((fun (x : Tw) (qq : Nat) => (match qq with | 0 => .pointer (some ⟨tb, 2, none⟩) | 1 => .slice xa c xc | 2 => .string ⟨#[97, 98, 99, 100, 101, 102, 103, 104]⟩ | 3 => .int .i64 (k : Nat) | 4 => .int .i64 (k : Nat) | 5 => .int .i64 ((k : Nat) + 1) | 6 => .string ⟨#[letB k]⟩ | 7 => x.tn | 8 => x.an | 9 => .pointer (some ⟨tb, 3, none⟩) | 10 => .slice ya c yc | 11 => .agg #[.int .i64 1, .string ⟨#[]⟩, .slice none 0 0, .slice none 0 0] | 12 => x.tk | 13 => x.ak | 14 => .pointer (some ⟨tb, 2, none⟩) | 15 => undef | 16 => .pointer (some ⟨tb, 3, none⟩) | 17 => undef | _ => undef : Value)) ⟨x.tn, y, x.tk, x.ak⟩) j = ((fun (x : Tw) (qq : Nat) => (match qq with | 0 => .pointer (some ⟨tb, 2, none⟩) | 1 => .slice xa c xc | 2 => .string ⟨#[97, 98, 99, 100, 101, 102, 103, 104]⟩ | 3 => .int .i64 (k : Nat) | 4 => .int .i64 (k : Nat) | 5 => .int .i64 ((k : Nat) + 1) | 6 => .string ⟨#[letB k]⟩ | 7 => x.tn | 8 => x.an | 9 => .pointer (some ⟨tb, 3, none⟩) | 10 => .slice ya c yc | 11 => .agg #[.int .i64 1, .string ⟨#[]⟩, .slice none 0 0, .slice none 0 0] | 12 => x.tk | 13 => x.ak | 14 => .pointer (some ⟨tb, 2, none⟩) | 15 => undef | 16 => .pointer (some ⟨tb, 3, none⟩) | 17 => undef | _ => undef : Value)) x) j := (fun q hq => match q, (show q ≠ 8 by rintro rfl; rw [hl1] at hq; cases hq) with | 0, _ => rfl | 1, _ => rfl | 2, _ => rfl | 3, _ => rfl | 4, _ => rfl | 5, _ => rfl | 6, _ => rfl | 7, _ => rfl | 8, h => absurd rfl h | 9, _ => rfl | 10, _ => rfl | 11, _ => rfl | 12, _ => rfl | 13, _ => rfl | 14, _ => rfl | 15, _ => rfl | 16, _ => rfl | 17, _ => rfl | _ + 18, _ => rfl)
                    exact ⟨by simpa using hsz, hC.put hi, ⟨x.tn, y, x.tk, x.ak⟩, (hF.congr hx).put (Slots.of (by rfl)) hsz rfl, (show TwM wr.drew tb tb (tb + 1) (7 + qd : Nat) c (.slice xa c xc) (.slice ya c yc) ns ks [.string ⟨#[letB k]⟩] cB.cells ((listed.setIfInBounds 8 true).getD 7 false) ((listed.setIfInBounds 8 true).getD 8 false) ((listed.setIfInBounds 8 true).getD 12 false) ((listed.setIfInBounds 8 true).getD 13 false) ((listed.setIfInBounds 8 true).getD 15 false) ((listed.setIfInBounds 8 true).getD 17 false) ⟨x.tn, y, x.tk, x.ak⟩ w3 by rw [getD_setS (by rw [hsz]; decide), getD_setN (show 8 ≠ 7 by decide), getD_setN (show 8 ≠ 12 by decide), getD_setN (show 8 ≠ 13 by decide), getD_setN (show 8 ≠ 15 by decide), getD_setN (show 8 ≠ 17 by decide), l7, l15]; exact a.appN hown hgr hfr)⟩
                  · cases ho
                    have e9 := hF.old_is 9 (by rfl) rfl
                    refine QJ.quiet (x := x) hsz hC hi hF (Slots.of (by rfl)) rfl (wanted_none rfl) (show TwM wr.drew tb tb (tb + 1) (7 + qd : Nat) c (.slice xa c xc) (.slice ya c yc) ns ks [.string ⟨#[letB k]⟩] cB.cells ((listed.setIfInBounds 9 true).getD 7 false) ((listed.setIfInBounds 9 true).getD 8 false) ((listed.setIfInBounds 9 true).getD 12 false) ((listed.setIfInBounds 9 true).getD 13 false) ((listed.setIfInBounds 9 true).getD 15 false) ((listed.setIfInBounds 9 true).getD 17 false) x v by rw [getD_setN (show 9 ≠ 7 by decide), getD_setN (show 9 ≠ 8 by decide), getD_setN (show 9 ≠ 12 by decide), getD_setN (show 9 ≠ 13 by decide), getD_setN (show 9 ≠ 15 by decide), getD_setN (show 9 ≠ 17 by decide)]; exact hMb) ?_
                    show _ = Result.ok (Next.value (.pointer (some ⟨tb, 3, none⟩))) v
                    simp [execOp, go_sem, e9]
                  · cases ho
                    have l17 : listed.getD 17 false = false := by
                      cases hh : listed.getD 17 false
                      · rfl
                      · have y0 := hC 17 _ rfl hh ⟨10, .phase⟩ (by simp) rfl; rw [hl1] at y0; cases y0
                    have tt := hMb.tat
                    rw [l17, if_neg (show ¬ (false = true) by decide)] at tt
                    obtain ⟨⟨z0, z1, z2, z3⟩, -⟩ := four_blk tt
                    have e77 : b.tmps[77]? = some (.pointer (some ⟨tb, 3, none⟩)) := hF.up 9 77 rfl (hdeps ⟨9, .data⟩ (by simp) rfl)
                    refine QJ.quiet (x := x) hsz hC hi hF (Slots.of (by rfl)) rfl (wanted_none rfl) (show TwM wr.drew tb tb (tb + 1) (7 + qd : Nat) c (.slice xa c xc) (.slice ya c yc) ns ks [.string ⟨#[letB k]⟩] cB.cells ((listed.setIfInBounds 10 true).getD 7 false) ((listed.setIfInBounds 10 true).getD 8 false) ((listed.setIfInBounds 10 true).getD 12 false) ((listed.setIfInBounds 10 true).getD 13 false) ((listed.setIfInBounds 10 true).getD 15 false) ((listed.setIfInBounds 10 true).getD 17 false) x v by rw [getD_setN (show 10 ≠ 7 by decide), getD_setN (show 10 ≠ 8 by decide), getD_setN (show 10 ≠ 12 by decide), getD_setN (show 10 ≠ 13 by decide), getD_setN (show 10 ≠ 15 by decide), getD_setN (show 10 ≠ 17 by decide)]; exact hMb) ?_
                    show _ = Result.ok (Next.value (.slice ya c yc)) v
                    simp [execOp, go_sem, e77, z3]
                  · cases ho
                    refine QJ.quiet (x := x) hsz hC hi hF (Slots.of (by rfl)) rfl (wanted_none rfl) (show TwM wr.drew tb tb (tb + 1) (7 + qd : Nat) c (.slice xa c xc) (.slice ya c yc) ns ks [.string ⟨#[letB k]⟩] cB.cells ((listed.setIfInBounds 11 true).getD 7 false) ((listed.setIfInBounds 11 true).getD 8 false) ((listed.setIfInBounds 11 true).getD 12 false) ((listed.setIfInBounds 11 true).getD 13 false) ((listed.setIfInBounds 11 true).getD 15 false) ((listed.setIfInBounds 11 true).getD 17 false) x v by rw [getD_setN (show 11 ≠ 7 by decide), getD_setN (show 11 ≠ 8 by decide), getD_setN (show 11 ≠ 12 by decide), getD_setN (show 11 ≠ 13 by decide), getD_setN (show 11 ≠ 15 by decide), getD_setN (show 11 ≠ 17 by decide)]; exact hMb) ?_
                    show _ = Result.ok (Next.value (.agg #[.int .i64 1, .string ⟨#[]⟩, .slice none 0 0, .slice none 0 0])) v
                    simp [execOp, go_sem]
                  · cases ho
                    have e79 : b.tmps[79]? = some (.agg #[.int .i64 1, .string ⟨#[]⟩, .slice none 0 0, .slice none 0 0]) := hF.up 11 79 rfl (hdeps ⟨11, .data⟩ (by simp) rfl)
                    have l13 : listed.getD 13 false = false := by
                      cases hh : listed.getD 13 false
                      · rfl
                      · have y0 := hC 13 _ rfl hh ⟨12, .data⟩ (by simp) rfl; rw [hl1] at y0; cases y0
                    have a := hMb
                    rw [hl1, l13] at a
                    refine QJ.make (v' := v.alloc (.cells #[.int .i64 1, .string ⟨#[]⟩, .slice none 0 0, .slice none 0 0] 31)) (x := x) (x' := ⟨x.tn, x.an, .slice (some ⟨v.heap.size, 0, none⟩) 1 1, x.ak⟩) hsz hC hi hF (Slots.of (by rfl)) rfl (wanted_none rfl) (fun q hq => match q, (show q ≠ 12 by rintro rfl; rw [hl1] at hq; cases hq) with | 0, _ => rfl | 1, _ => rfl | 2, _ => rfl | 3, _ => rfl | 4, _ => rfl | 5, _ => rfl | 6, _ => rfl | 7, _ => rfl | 8, _ => rfl | 9, _ => rfl | 10, _ => rfl | 11, _ => rfl | 12, h => absurd rfl h | 13, _ => rfl | 14, _ => rfl | 15, _ => rfl | 16, _ => rfl | 17, _ => rfl | _ + 18, _ => rfl) (show TwM wr.drew tb tb (tb + 1) (7 + qd : Nat) c (.slice xa c xc) (.slice ya c yc) ns ks [.string ⟨#[letB k]⟩] cB.cells ((listed.setIfInBounds 12 true).getD 7 false) ((listed.setIfInBounds 12 true).getD 8 false) ((listed.setIfInBounds 12 true).getD 12 false) ((listed.setIfInBounds 12 true).getD 13 false) ((listed.setIfInBounds 12 true).getD 15 false) ((listed.setIfInBounds 12 true).getD 17 false) ⟨x.tn, x.an, .slice (some ⟨v.heap.size, 0, none⟩) 1 1, x.ak⟩ (v.alloc (.cells #[.int .i64 1, .string ⟨#[]⟩, .slice none 0 0, .slice none 0 0] 31)) by rw [getD_setS (by rw [hsz]; decide), getD_setN (show 12 ≠ 7 by decide), getD_setN (show 12 ≠ 8 by decide), getD_setN (show 12 ≠ 13 by decide), getD_setN (show 12 ≠ 15 by decide), getD_setN (show 12 ≠ 17 by decide), l13]; exact a.layK) ?_
                    show _ = Result.ok (Next.value (.slice (some ⟨v.heap.size, 0, none⟩) 1 1)) _
                    simp [execOp, go_sem, e79]
                  · cases ho
                    have l12 := hdeps ⟨12, .data⟩ (by simp) rfl
                    have l10 := hdeps ⟨10, .data⟩ (by simp) rfl
                    have l17 : listed.getD 17 false = false := by
                      cases hh : listed.getD 17 false
                      · rfl
                      · have y0 := hC 17 _ rfl hh ⟨13, .data⟩ (by simp) rfl; rw [hl1] at y0; cases y0
                    have a := hMb
                    rw [l12, hl1, l17] at a
                    obtain ⟨g, t1, t2, t3, t4⟩ := a.sk.tmp rfl rfl
                    have hvz := a.size
                    have hdz : wr.drew.heap.size = wr.heap.size := rfl
                    refine wpOp_wpG rfl (wanted_none rfl) (Sh.wp_append_fresh (.tmp 78) (.tmp 80) 29 rfl (tb + 1) 31 ik (.agg #[.int .i64 0, .string ⟨#[]⟩, .slice none 0 0, .slice none 0 0]) 4 72 Try.underlying29 HIk.out HJk.out HKk.out HLk.out rfl (by decide) (.slice ya c yc) c ks (hF.eval (i := 10) rfl l10) (a.sk.row rfl) ⟨g, 0, none⟩ 1 1 cB.cells ((hF.eval (i := 12) rfl l12).trans t1) rfl (fun j u hu => by rw [addr_addZ]; simp only [World.cell?, t4]; simpa using hu) (by exact C4.one cB) (by unfold maxLen; omega) (by omega) (by omega) ?_)
                    intro y w3 hown hgr hfr
                    have hx : ∀ j, listed.getD j false = true → ((fun (x : Tw) (qq : Nat) => (match qq with | 0 => .pointer (some ⟨tb, 2, none⟩) | 1 => .slice xa c xc | 2 => .string ⟨#[97, 98, 99, 100, 101, 102, 103, 104]⟩ | 3 => .int .i64 (k : Nat) | 4 => .int .i64 (k : Nat) | 5 => .int .i64 ((k : Nat) + 1) | 6 => .string ⟨#[letB k]⟩ | 7 => x.tn | 8 => x.an | 9 => .pointer (some ⟨tb, 3, none⟩) | 10 => .slice ya c yc | 11 => .agg #[.int .i64 1, .string ⟨#[]⟩, .slice none 0 0, .slice none 0 0] | 12 => x.tk | 13 => x.ak | 14 => .pointer (some ⟨tb, 2, none⟩) | 15 => undef | 16 => .pointer (some ⟨tb, 3, none⟩) | 17 => undef | _ => undef : Value)) ⟨x.tn, x.an, x.tk, y⟩) j = ((fun (x : Tw) (qq : Nat) => (match qq with | 0 => .pointer (some ⟨tb, 2, none⟩) | 1 => .slice xa c xc | 2 => .string ⟨#[97, 98, 99, 100, 101, 102, 103, 104]⟩ | 3 => .int .i64 (k : Nat) | 4 => .int .i64 (k : Nat) | 5 => .int .i64 ((k : Nat) + 1) | 6 => .string ⟨#[letB k]⟩ | 7 => x.tn | 8 => x.an | 9 => .pointer (some ⟨tb, 3, none⟩) | 10 => .slice ya c yc | 11 => .agg #[.int .i64 1, .string ⟨#[]⟩, .slice none 0 0, .slice none 0 0] | 12 => x.tk | 13 => x.ak | 14 => .pointer (some ⟨tb, 2, none⟩) | 15 => undef | 16 => .pointer (some ⟨tb, 3, none⟩) | 17 => undef | _ => undef : Value)) x) j := (fun q hq => match q, (show q ≠ 13 by rintro rfl; rw [hl1] at hq; cases hq) with | 0, _ => rfl | 1, _ => rfl | 2, _ => rfl | 3, _ => rfl | 4, _ => rfl | 5, _ => rfl | 6, _ => rfl | 7, _ => rfl | 8, _ => rfl | 9, _ => rfl | 10, _ => rfl | 11, _ => rfl | 12, _ => rfl | 13, h => absurd rfl h | 14, _ => rfl | 15, _ => rfl | 16, _ => rfl | 17, _ => rfl | _ + 18, _ => rfl)
                    exact ⟨by simpa using hsz, hC.put hi, ⟨x.tn, x.an, x.tk, y⟩, (hF.congr hx).put (Slots.of (by rfl)) hsz rfl, (show TwM wr.drew tb tb (tb + 1) (7 + qd : Nat) c (.slice xa c xc) (.slice ya c yc) ns ks [.string ⟨#[letB k]⟩] cB.cells ((listed.setIfInBounds 13 true).getD 7 false) ((listed.setIfInBounds 13 true).getD 8 false) ((listed.setIfInBounds 13 true).getD 12 false) ((listed.setIfInBounds 13 true).getD 13 false) ((listed.setIfInBounds 13 true).getD 15 false) ((listed.setIfInBounds 13 true).getD 17 false) ⟨x.tn, x.an, x.tk, y⟩ w3 by rw [getD_setS (by rw [hsz]; decide), getD_setN (show 13 ≠ 7 by decide), getD_setN (show 13 ≠ 8 by decide), getD_setN (show 13 ≠ 12 by decide), getD_setN (show 13 ≠ 15 by decide), getD_setN (show 13 ≠ 17 by decide), l12, l17]; exact a.appK hown hgr hfr)⟩
                  · cases ho
                    have e9 := hF.old_is 9 (by rfl) rfl
                    refine QJ.quiet (x := x) hsz hC hi hF (Slots.of (by rfl)) rfl (wanted_none rfl) (show TwM wr.drew tb tb (tb + 1) (7 + qd : Nat) c (.slice xa c xc) (.slice ya c yc) ns ks [.string ⟨#[letB k]⟩] cB.cells ((listed.setIfInBounds 14 true).getD 7 false) ((listed.setIfInBounds 14 true).getD 8 false) ((listed.setIfInBounds 14 true).getD 12 false) ((listed.setIfInBounds 14 true).getD 13 false) ((listed.setIfInBounds 14 true).getD 15 false) ((listed.setIfInBounds 14 true).getD 17 false) x v by rw [getD_setN (show 14 ≠ 7 by decide), getD_setN (show 14 ≠ 8 by decide), getD_setN (show 14 ≠ 12 by decide), getD_setN (show 14 ≠ 13 by decide), getD_setN (show 14 ≠ 15 by decide), getD_setN (show 14 ≠ 17 by decide)]; exact hMb) ?_
                    show _ = Result.ok (Next.value (.pointer (some ⟨tb, 2, none⟩))) v
                    simp [execOp, go_sem, e9]
                  · cases ho
                    have l8 := hdeps ⟨8, .data⟩ (by simp) rfl
                    have l13 := hdeps ⟨13, .chain⟩ (by simp) rfl
                    have l17 : listed.getD 17 false = false := by
                      cases hh : listed.getD 17 false
                      · rfl
                      · have y0 := hC 17 _ rfl hh ⟨15, .chain⟩ (by simp) rfl; rw [hl1] at y0; cases y0
                    have a := hMb
                    rw [l8, l13, hl1, l17] at a
                    obtain ⟨va, vc, hv'⟩ := own_sliceZ (a.sn.done rfl)
                    have tt := a.tat
                    simp only [Bool.false_eq_true, if_false] at tt
                    obtain ⟨⟨z0, z1, z2, z3⟩, ⟨f0, f1, f2, f3⟩⟩ := four_blk tt
                    have e82 : b.tmps[82]? = some (.pointer (some ⟨tb, 2, none⟩)) := hF.up 14 82 rfl (hdeps ⟨14, .data⟩ (by simp) rfl)
                    have e76 : b.tmps[76]? = some (x.an) := hF.up 8 76 rfl (hdeps ⟨8, .data⟩ (by simp) rfl)
                    refine QJ.store (v' := v.setCell ⟨tb, 2, none⟩ x.an) (x := x) hsz hC hi hF (Slots.of (by rfl)) rfl rfl (wanted_none rfl) (show TwM wr.drew tb tb (tb + 1) (7 + qd : Nat) c (.slice xa c xc) (.slice ya c yc) ns ks [.string ⟨#[letB k]⟩] cB.cells ((listed.setIfInBounds 15 true).getD 7 false) ((listed.setIfInBounds 15 true).getD 8 false) ((listed.setIfInBounds 15 true).getD 12 false) ((listed.setIfInBounds 15 true).getD 13 false) ((listed.setIfInBounds 15 true).getD 15 false) ((listed.setIfInBounds 15 true).getD 17 false) x (v.setCell ⟨tb, 2, none⟩ x.an) by rw [getD_setS (by rw [hsz]; decide), getD_setN (show 15 ≠ 7 by decide), getD_setN (show 15 ≠ 8 by decide), getD_setN (show 15 ≠ 12 by decide), getD_setN (show 15 ≠ 13 by decide), getD_setN (show 15 ≠ 17 by decide), l8, l13, l17]; exact a.putN) ?_
                    rw [hv'] at *
                    simp [execOp, go_sem, e82, e76, z2, f2]
                  · cases ho
                    have e9 := hF.old_is 9 (by rfl) rfl
                    refine QJ.quiet (x := x) hsz hC hi hF (Slots.of (by rfl)) rfl (wanted_none rfl) (show TwM wr.drew tb tb (tb + 1) (7 + qd : Nat) c (.slice xa c xc) (.slice ya c yc) ns ks [.string ⟨#[letB k]⟩] cB.cells ((listed.setIfInBounds 16 true).getD 7 false) ((listed.setIfInBounds 16 true).getD 8 false) ((listed.setIfInBounds 16 true).getD 12 false) ((listed.setIfInBounds 16 true).getD 13 false) ((listed.setIfInBounds 16 true).getD 15 false) ((listed.setIfInBounds 16 true).getD 17 false) x v by rw [getD_setN (show 16 ≠ 7 by decide), getD_setN (show 16 ≠ 8 by decide), getD_setN (show 16 ≠ 12 by decide), getD_setN (show 16 ≠ 13 by decide), getD_setN (show 16 ≠ 15 by decide), getD_setN (show 16 ≠ 17 by decide)]; exact hMb) ?_
                    show _ = Result.ok (Next.value (.pointer (some ⟨tb, 3, none⟩))) v
                    simp [execOp, go_sem, e9]
                  · cases ho
                    have l8 := hdeps ⟨8, .phase⟩ (by simp) rfl
                    have l13 := hdeps ⟨13, .data⟩ (by simp) rfl
                    have l15 := hdeps ⟨15, .chain⟩ (by simp) rfl
                    have a := hMb
                    rw [l8, l13, l15, hl1] at a
                    obtain ⟨va, vc, hv'⟩ := own_sliceZ (a.sk.done rfl)
                    have tt := a.tat
                    simp only [Bool.false_eq_true, if_false, if_true] at tt
                    obtain ⟨⟨z0, z1, z2, z3⟩, ⟨f0, f1, f2, f3⟩⟩ := four_blk tt
                    have e83 : b.tmps[83]? = some (.pointer (some ⟨tb, 3, none⟩)) := hF.up 16 83 rfl (hdeps ⟨16, .data⟩ (by simp) rfl)
                    have e81 : b.tmps[81]? = some (x.ak) := hF.up 13 81 rfl (hdeps ⟨13, .data⟩ (by simp) rfl)
                    refine QJ.store (v' := v.setCell ⟨tb, 3, none⟩ x.ak) (x := x) hsz hC hi hF (Slots.of (by rfl)) rfl rfl (wanted_none rfl) (show TwM wr.drew tb tb (tb + 1) (7 + qd : Nat) c (.slice xa c xc) (.slice ya c yc) ns ks [.string ⟨#[letB k]⟩] cB.cells ((listed.setIfInBounds 17 true).getD 7 false) ((listed.setIfInBounds 17 true).getD 8 false) ((listed.setIfInBounds 17 true).getD 12 false) ((listed.setIfInBounds 17 true).getD 13 false) ((listed.setIfInBounds 17 true).getD 15 false) ((listed.setIfInBounds 17 true).getD 17 false) x (v.setCell ⟨tb, 3, none⟩ x.ak) by rw [getD_setS (by rw [hsz]; decide), getD_setN (show 17 ≠ 7 by decide), getD_setN (show 17 ≠ 8 by decide), getD_setN (show 17 ≠ 12 by decide), getD_setN (show 17 ≠ 13 by decide), getD_setN (show 17 ≠ 15 by decide), l8, l13, l15]; exact a.putK) ?_
                    rw [hv'] at *
                    simp [execOp, go_sem, e83, e81, z3, f3]
                · intro listed b W5 hJ hr'
                  obtain ⟨hsz, hC, xx, hF, hM⟩ := hJ
                  have hall := all_upB2 (by rfl) hsz hr'
                  have hMb : TwM wr.drew tb tb (tb + 1) (7 + qd : Nat) c (.slice xa c xc) (.slice ya c yc) ns ks [.string ⟨#[letB k]⟩] cB.cells true true true true true true xx W5 := by
                    have h : TwM wr.drew tb tb (tb + 1) (7 + qd : Nat) c (.slice xa c xc) (.slice ya c yc) ns ks [.string ⟨#[letB k]⟩] cB.cells (listed.getD 7 false) (listed.getD 8 false) (listed.getD 12 false) (listed.getD 13 false) (listed.getD 15 false) (listed.getD 17 false) xx W5 := hM
                    rw [hall 7 (by decide), hall 8 (by decide), hall 12 (by decide), hall 13 (by decide), hall 15 (by decide), hall 17 (by decide)] at h
                    exact h
                  have hd := hMb.over
                  have hb : b = putAll _ _ _ 18 := hF.done (Slots.of (by rfl)) hall
                  subst hb
                  simp only [putAll]
                  simp [dstOf, Act.put]
                  have HD := Lib.hid hd; have HNS := Lib.hid hns; have HKS := Lib.hid hks; have HC := Lib.hid hc
                  clear hM hF hC hall hr' hsz hMb hd hns hks hcut hN0 hK0 hA0 hT0 hc
                  go_wp2
                  go_roundw
                  case rel => exact ⟨k + 1, xx.an, xx.ak, by go_num, by omega, HD.out.tat, by rw [widL_succ, hf1, if_pos rfl, List.length_append, HC.out, List.length_singleton]; have := HD.out.names; rw [← HNS.out] at this; simpa [wdN] using this, by rw [widL_succ, hf1, if_pos rfl, List.length_append, HC.out, List.length_singleton]; have := HD.out.kids; rw [← HKS.out] at this; simpa [wdK] using this, HD.out.apart, H.out.below.drew.trans HD.out.below⟩
                  case measure => simp [intOf]; omega
          · obtain rfl : len = j := by omega
            have hfk : hasJ g k len = f k := by rw [HF.out, HMM.out, show min len 20 = len by omega]; rfl
            rw [hfk]
            cases hf1 : f k with
            | false =>
              go_wp2
              go_roundw
              case rel => exact ⟨k + 1, x, y, by go_num, by omega, H.out.tat, by rw [widL_succ, hf1]; exact H.out.names, by rw [widL_succ, hf1]; exact H.out.kids, H.out.apart, H.out.below⟩
              case measure => simp [intOf]; omega
            | true =>
              go_upto_region 17 with fail
              obtain ⟨xa, xc, rfl⟩ := own_sliceZ H.out.names
              obtain ⟨ya, yc, rfl⟩ := own_sliceZ H.out.kids
              have hc8 := widL_len f k
              have hN0 := H.out.names
              have hK0 := H.out.kids
              have hA0 := H.out.apart
              have hT0 := H.out.tat
              obtain ⟨c, hc⟩ : ∃ c, (widL f k).length = c := ⟨_, rfl⟩
              rw [hc] at hc8 hN0 hK0 hA0 hT0
              obtain ⟨ns, hns⟩ : ∃ ns, wdN (widL f k) = ns := ⟨_, rfl⟩
              obtain ⟨ks, hks⟩ : ∃ ks, wdK (widL f k) = ks := ⟨_, rfl⟩
              rw [hns] at hN0
              rw [hks] at hK0
              have hcut := let_cut k hlt
              have hk0 : (0 : Int) ≤ (k : Int) := by omega
              have hwk : IntKind.i64.wrap ((k : Int) + 1) = (k : Int) + 1 := IntWalk.i64_in _ (by omega)
              have hk1 : (k : Int) ≤ (k : Int) + 1 := by omega
              have hk2 : (k : Int) + 1 ≤ 8 := by omega
              refine wp_region_by (QJ (fun (x : Tw) qq => match qq with | 0 => .pointer (some ⟨tb, 2, none⟩) | 1 => .slice xa c xc | 2 => .string ⟨#[97, 98, 99, 100, 101, 102, 103, 104]⟩ | 3 => .int .i64 (k : Nat) | 4 => .int .i64 (k : Nat) | 5 => .int .i64 ((k : Nat) + 1) | 6 => .string ⟨#[letB k]⟩ | 7 => x.tn | 8 => x.an | 9 => .pointer (some ⟨tb, 3, none⟩) | 10 => .slice ya c yc | 11 => .agg #[.int .i64 1, .string ⟨#[]⟩, .slice none 0 0, .slice none 0 0] | 12 => x.tk | 13 => x.ak | 14 => .pointer (some ⟨tb, 2, none⟩) | 15 => undef | 16 => .pointer (some ⟨tb, 3, none⟩) | 17 => undef | _ => undef) (fun x listed v => TwM wr.drew tb tb (tb + 1) (7 + qd : Nat) c (.slice xa c xc) (.slice ya c yc) ns ks [.string ⟨#[letB k]⟩] cB.cells (listed.getD 7 false) (listed.getD 8 false) (listed.getD 12 false) (listed.getD 13 false) (listed.getD 15 false) (listed.getD 17 false) x v)) (by kernel_rfl) ?_ ?_ ?_
              · exact ⟨by simp, Closed.start _, ⟨undef, undef, undef, undef⟩, Fr.start _ _ _, by simp only [rep_getDL]; exact TwM.start (W0 := wr.drew) hN0 hK0 hA0 hT0 (Nat.lt_succ_self _) (Nat.le_refl _) _⟩
              · intro listed b v q hJ hi
                obtain ⟨hsz, hC, x, hF, hM⟩ := hJ
                have hMb : TwM wr.drew tb tb (tb + 1) (7 + qd : Nat) c (.slice xa c xc) (.slice ya c yc) ns ks [.string ⟨#[letB k]⟩] cB.cells (listed.getD 7 false) (listed.getD 8 false) (listed.getD 12 false) (listed.getD 13 false) (listed.getD 15 false) (listed.getD 17 false) x v := hM
                obtain ⟨hl1, hiN⟩ := not_up hsz hi
                obtain ⟨_, o, ho, hdeps⟩ := mem_ready.1 hi
                have hiN : q < 18 := hiN
                obtain rfl | rfl | rfl | rfl | rfl | rfl | rfl | rfl | rfl | rfl | rfl | rfl | rfl | rfl | rfl | rfl | rfl | rfl : q = 0 ∨ q = 1 ∨ q = 2 ∨ q = 3 ∨ q = 4 ∨ q = 5 ∨ q = 6 ∨ q = 7 ∨ q = 8 ∨ q = 9 ∨ q = 10 ∨ q = 11 ∨ q = 12 ∨ q = 13 ∨ q = 14 ∨ q = 15 ∨ q = 16 ∨ q = 17 := by omega
                · cases ho
                  have e9 := hF.old_is 9 (by rfl) rfl
                  refine QJ.quiet (x := x) hsz hC hi hF (Slots.of (by rfl)) rfl (wanted_none rfl) (show TwM wr.drew tb tb (tb + 1) (7 + qd : Nat) c (.slice xa c xc) (.slice ya c yc) ns ks [.string ⟨#[letB k]⟩] cB.cells ((listed.setIfInBounds 0 true).getD 7 false) ((listed.setIfInBounds 0 true).getD 8 false) ((listed.setIfInBounds 0 true).getD 12 false) ((listed.setIfInBounds 0 true).getD 13 false) ((listed.setIfInBounds 0 true).getD 15 false) ((listed.setIfInBounds 0 true).getD 17 false) x v by rw [getD_setN (show 0 ≠ 7 by decide), getD_setN (show 0 ≠ 8 by decide), getD_setN (show 0 ≠ 12 by decide), getD_setN (show 0 ≠ 13 by decide), getD_setN (show 0 ≠ 15 by decide), getD_setN (show 0 ≠ 17 by decide)]; exact hMb) ?_
                  show _ = Result.ok (Next.value (.pointer (some ⟨tb, 2, none⟩))) v
                  simp [execOp, go_sem, e9]
                · cases ho
                  have l15 : listed.getD 15 false = false := by
                    cases hh : listed.getD 15 false
                    · rfl
                    · have y0 := hC 15 _ rfl hh ⟨1, .phase⟩ (by simp) rfl; rw [hl1] at y0; cases y0
                  have tt := hMb.tat
                  rw [l15, if_neg (show ¬ (false = true) by decide)] at tt
                  obtain ⟨⟨z0, z1, z2, z3⟩, -⟩ := four_blk tt
                  have e68 : b.tmps[68]? = some (.pointer (some ⟨tb, 2, none⟩)) := hF.up 0 68 rfl (hdeps ⟨0, .data⟩ (by simp) rfl)
                  refine QJ.quiet (x := x) hsz hC hi hF (Slots.of (by rfl)) rfl (wanted_none rfl) (show TwM wr.drew tb tb (tb + 1) (7 + qd : Nat) c (.slice xa c xc) (.slice ya c yc) ns ks [.string ⟨#[letB k]⟩] cB.cells ((listed.setIfInBounds 1 true).getD 7 false) ((listed.setIfInBounds 1 true).getD 8 false) ((listed.setIfInBounds 1 true).getD 12 false) ((listed.setIfInBounds 1 true).getD 13 false) ((listed.setIfInBounds 1 true).getD 15 false) ((listed.setIfInBounds 1 true).getD 17 false) x v by rw [getD_setN (show 1 ≠ 7 by decide), getD_setN (show 1 ≠ 8 by decide), getD_setN (show 1 ≠ 12 by decide), getD_setN (show 1 ≠ 13 by decide), getD_setN (show 1 ≠ 15 by decide), getD_setN (show 1 ≠ 17 by decide)]; exact hMb) ?_
                  show _ = Result.ok (Next.value (.slice xa c xc)) v
                  simp [execOp, go_sem, e68, z2]
                · cases ho
                  have e10 := hF.old_is 10 (by rfl) rfl
                  refine QJ.quiet (x := x) hsz hC hi hF (Slots.of (by rfl)) rfl (wanted_none rfl) (show TwM wr.drew tb tb (tb + 1) (7 + qd : Nat) c (.slice xa c xc) (.slice ya c yc) ns ks [.string ⟨#[letB k]⟩] cB.cells ((listed.setIfInBounds 2 true).getD 7 false) ((listed.setIfInBounds 2 true).getD 8 false) ((listed.setIfInBounds 2 true).getD 12 false) ((listed.setIfInBounds 2 true).getD 13 false) ((listed.setIfInBounds 2 true).getD 15 false) ((listed.setIfInBounds 2 true).getD 17 false) x v by rw [getD_setN (show 2 ≠ 7 by decide), getD_setN (show 2 ≠ 8 by decide), getD_setN (show 2 ≠ 12 by decide), getD_setN (show 2 ≠ 13 by decide), getD_setN (show 2 ≠ 15 by decide), getD_setN (show 2 ≠ 17 by decide)]; exact hMb) ?_
                  show _ = Result.ok (Next.value (.string ⟨#[97, 98, 99, 100, 101, 102, 103, 104]⟩)) v
                  simp [execOp, go_sem, e10]
                · cases ho
                  have e11 := hF.old_is 11 (by rfl) rfl
                  refine QJ.quiet (x := x) hsz hC hi hF (Slots.of (by rfl)) rfl (wanted_none rfl) (show TwM wr.drew tb tb (tb + 1) (7 + qd : Nat) c (.slice xa c xc) (.slice ya c yc) ns ks [.string ⟨#[letB k]⟩] cB.cells ((listed.setIfInBounds 3 true).getD 7 false) ((listed.setIfInBounds 3 true).getD 8 false) ((listed.setIfInBounds 3 true).getD 12 false) ((listed.setIfInBounds 3 true).getD 13 false) ((listed.setIfInBounds 3 true).getD 15 false) ((listed.setIfInBounds 3 true).getD 17 false) x v by rw [getD_setN (show 3 ≠ 7 by decide), getD_setN (show 3 ≠ 8 by decide), getD_setN (show 3 ≠ 12 by decide), getD_setN (show 3 ≠ 13 by decide), getD_setN (show 3 ≠ 15 by decide), getD_setN (show 3 ≠ 17 by decide)]; exact hMb) ?_
                  show _ = Result.ok (Next.value (.int .i64 (k : Nat))) v
                  simp [execOp, go_sem, e11]
                · cases ho
                  have e11 := hF.old_is 11 (by rfl) rfl
                  refine QJ.quiet (x := x) hsz hC hi hF (Slots.of (by rfl)) rfl (wanted_none rfl) (show TwM wr.drew tb tb (tb + 1) (7 + qd : Nat) c (.slice xa c xc) (.slice ya c yc) ns ks [.string ⟨#[letB k]⟩] cB.cells ((listed.setIfInBounds 4 true).getD 7 false) ((listed.setIfInBounds 4 true).getD 8 false) ((listed.setIfInBounds 4 true).getD 12 false) ((listed.setIfInBounds 4 true).getD 13 false) ((listed.setIfInBounds 4 true).getD 15 false) ((listed.setIfInBounds 4 true).getD 17 false) x v by rw [getD_setN (show 4 ≠ 7 by decide), getD_setN (show 4 ≠ 8 by decide), getD_setN (show 4 ≠ 12 by decide), getD_setN (show 4 ≠ 13 by decide), getD_setN (show 4 ≠ 15 by decide), getD_setN (show 4 ≠ 17 by decide)]; exact hMb) ?_
                  show _ = Result.ok (Next.value (.int .i64 (k : Nat))) v
                  simp [execOp, go_sem, e11]
                · cases ho
                  have e72 : b.tmps[72]? = some (.int .i64 (k : Nat)) := hF.up 4 72 rfl (hdeps ⟨4, .data⟩ (by simp) rfl)
                  refine QJ.quiet (x := x) hsz hC hi hF (Slots.of (by rfl)) rfl (wanted_none rfl) (show TwM wr.drew tb tb (tb + 1) (7 + qd : Nat) c (.slice xa c xc) (.slice ya c yc) ns ks [.string ⟨#[letB k]⟩] cB.cells ((listed.setIfInBounds 5 true).getD 7 false) ((listed.setIfInBounds 5 true).getD 8 false) ((listed.setIfInBounds 5 true).getD 12 false) ((listed.setIfInBounds 5 true).getD 13 false) ((listed.setIfInBounds 5 true).getD 15 false) ((listed.setIfInBounds 5 true).getD 17 false) x v by rw [getD_setN (show 5 ≠ 7 by decide), getD_setN (show 5 ≠ 8 by decide), getD_setN (show 5 ≠ 12 by decide), getD_setN (show 5 ≠ 13 by decide), getD_setN (show 5 ≠ 15 by decide), getD_setN (show 5 ≠ 17 by decide)]; exact hMb) ?_
                  show _ = Result.ok (Next.value (.int .i64 ((k : Nat) + 1))) v
                  simp [execOp, go_sem, e72, hwk]
                · cases ho
                  have e70 : b.tmps[70]? = some (.string ⟨#[97, 98, 99, 100, 101, 102, 103, 104]⟩) := hF.up 2 70 rfl (hdeps ⟨2, .data⟩ (by simp) rfl)
                  have e71 : b.tmps[71]? = some (.int .i64 (k : Nat)) := hF.up 3 71 rfl (hdeps ⟨3, .data⟩ (by simp) rfl)
                  have e73 : b.tmps[73]? = some (.int .i64 ((k : Nat) + 1)) := hF.up 5 73 rfl (hdeps ⟨5, .data⟩ (by simp) rfl)
                  refine QJ.quiet (x := x) hsz hC hi hF (Slots.of (by rfl)) rfl (wanted_none rfl) (show TwM wr.drew tb tb (tb + 1) (7 + qd : Nat) c (.slice xa c xc) (.slice ya c yc) ns ks [.string ⟨#[letB k]⟩] cB.cells ((listed.setIfInBounds 6 true).getD 7 false) ((listed.setIfInBounds 6 true).getD 8 false) ((listed.setIfInBounds 6 true).getD 12 false) ((listed.setIfInBounds 6 true).getD 13 false) ((listed.setIfInBounds 6 true).getD 15 false) ((listed.setIfInBounds 6 true).getD 17 false) x v by rw [getD_setN (show 6 ≠ 7 by decide), getD_setN (show 6 ≠ 8 by decide), getD_setN (show 6 ≠ 12 by decide), getD_setN (show 6 ≠ 13 by decide), getD_setN (show 6 ≠ 15 by decide), getD_setN (show 6 ≠ 17 by decide)]; exact hMb) ?_
                  show _ = Result.ok (Next.value (.string ⟨#[letB k]⟩)) v
                  simp [execOp, go_sem, e70, e71, e73, hcut, hk0, hk1, hk2]
                · cases ho
                  have e74 : b.tmps[74]? = some (.string ⟨#[letB k]⟩) := hF.up 6 74 rfl (hdeps ⟨6, .data⟩ (by simp) rfl)
                  have l8 : listed.getD 8 false = false := by
                    cases hh : listed.getD 8 false
                    · rfl
                    · have y0 := hC 8 _ rfl hh ⟨7, .data⟩ (by simp) rfl; rw [hl1] at y0; cases y0
                  have a := hMb
                  rw [hl1, l8] at a
                  refine QJ.make (v' := v.alloc (.cells #[.string ⟨#[letB k]⟩] 9)) (x := x) (x' := ⟨.slice (some ⟨v.heap.size, 0, none⟩) 1 1, x.an, x.tk, x.ak⟩) hsz hC hi hF (Slots.of (by rfl)) rfl (wanted_none rfl) (fun q hq => match q, (show q ≠ 7 by rintro rfl; rw [hl1] at hq; cases hq) with | 0, _ => rfl | 1, _ => rfl | 2, _ => rfl | 3, _ => rfl | 4, _ => rfl | 5, _ => rfl | 6, _ => rfl | 7, h => absurd rfl h | 8, _ => rfl | 9, _ => rfl | 10, _ => rfl | 11, _ => rfl | 12, _ => rfl | 13, _ => rfl | 14, _ => rfl | 15, _ => rfl | 16, _ => rfl | 17, _ => rfl | _ + 18, _ => rfl) (show TwM wr.drew tb tb (tb + 1) (7 + qd : Nat) c (.slice xa c xc) (.slice ya c yc) ns ks [.string ⟨#[letB k]⟩] cB.cells ((listed.setIfInBounds 7 true).getD 7 false) ((listed.setIfInBounds 7 true).getD 8 false) ((listed.setIfInBounds 7 true).getD 12 false) ((listed.setIfInBounds 7 true).getD 13 false) ((listed.setIfInBounds 7 true).getD 15 false) ((listed.setIfInBounds 7 true).getD 17 false) ⟨.slice (some ⟨v.heap.size, 0, none⟩) 1 1, x.an, x.tk, x.ak⟩ (v.alloc (.cells #[.string ⟨#[letB k]⟩] 9)) by rw [getD_setS (by rw [hsz]; decide), getD_setN (show 7 ≠ 8 by decide), getD_setN (show 7 ≠ 12 by decide), getD_setN (show 7 ≠ 13 by decide), getD_setN (show 7 ≠ 15 by decide), getD_setN (show 7 ≠ 17 by decide), l8]; exact a.layN) ?_
                  show _ = Result.ok (Next.value (.slice (some ⟨v.heap.size, 0, none⟩) 1 1)) _
                  simp [execOp, go_sem, e74]
                · cases ho
                  have l7 := hdeps ⟨7, .data⟩ (by simp) rfl
                  have l1 := hdeps ⟨1, .data⟩ (by simp) rfl
                  have l15 : listed.getD 15 false = false := by
                    cases hh : listed.getD 15 false
                    · rfl
                    · have y0 := hC 15 _ rfl hh ⟨8, .data⟩ (by simp) rfl; rw [hl1] at y0; cases y0
                  have a := hMb
                  rw [l7, hl1, l15] at a
                  obtain ⟨g, t1, t2, t3, t4⟩ := a.sn.tmp rfl rfl
                  have hvz := a.size
                  have hdz : wr.drew.heap.size = wr.heap.size := rfl
                  refine wpOp_wpG rfl (wanted_none rfl) (Sh.wp_append_fresh (.tmp 69) (.tmp 75) 28 rfl (tb + 1) 9 is (.string ⟨#[]⟩) 1 16 Try.underlying28 HIs.out HJs.out HKs.out HLs.out rfl (by decide) (.slice xa c xc) c ns (hF.eval (i := 1) rfl l1) (a.sn.row rfl) ⟨g, 0, none⟩ 1 1 [.string ⟨#[letB k]⟩] ((hF.eval (i := 7) rfl l7).trans t1) rfl (fun j u hu => by rw [addr_addZ]; simp only [World.cell?, t4]; simpa using hu) (by intro z hz; simp at hz; subst hz; rfl) (by unfold maxLen; omega) (by omega) (by omega) ?_)
                  intro y w3 hown hgr hfr
                  have hx : ∀ j, listed.getD j false = true → ((fun (x : Tw) (qq : Nat) => (match qq with | 0 => .pointer (some ⟨tb, 2, none⟩) | 1 => .slice xa c xc | 2 => .string ⟨#[97, 98, 99, 100, 101, 102, 103, 104]⟩ | 3 => .int .i64 (k : Nat) | 4 => .int .i64 (k : Nat) | 5 => .int .i64 ((k : Nat) + 1) | 6 => .string ⟨#[letB k]⟩ | 7 => x.tn | 8 => x.an | 9 => .pointer (some ⟨tb, 3, none⟩) | 10 => .slice ya c yc | 11 => .agg #[.int .i64 1, .string ⟨#[]⟩, .slice none 0 0, .slice none 0 0] | 12 => x.tk | 13 => x.ak | 14 => .pointer (some ⟨tb, 2, none⟩) | 15 => undef | 16 => .pointer (some ⟨tb, 3, none⟩) | 17 => undef | _ => undef : Value)) ⟨x.tn, y, x.tk, x.ak⟩) j = ((fun (x : Tw) (qq : Nat) => (match qq with | 0 => .pointer (some ⟨tb, 2, none⟩) | 1 => .slice xa c xc | 2 => .string ⟨#[97, 98, 99, 100, 101, 102, 103, 104]⟩ | 3 => .int .i64 (k : Nat) | 4 => .int .i64 (k : Nat) | 5 => .int .i64 ((k : Nat) + 1) | 6 => .string ⟨#[letB k]⟩ | 7 => x.tn | 8 => x.an | 9 => .pointer (some ⟨tb, 3, none⟩) | 10 => .slice ya c yc | 11 => .agg #[.int .i64 1, .string ⟨#[]⟩, .slice none 0 0, .slice none 0 0] | 12 => x.tk | 13 => x.ak | 14 => .pointer (some ⟨tb, 2, none⟩) | 15 => undef | 16 => .pointer (some ⟨tb, 3, none⟩) | 17 => undef | _ => undef : Value)) x) j := (fun q hq => match q, (show q ≠ 8 by rintro rfl; rw [hl1] at hq; cases hq) with | 0, _ => rfl | 1, _ => rfl | 2, _ => rfl | 3, _ => rfl | 4, _ => rfl | 5, _ => rfl | 6, _ => rfl | 7, _ => rfl | 8, h => absurd rfl h | 9, _ => rfl | 10, _ => rfl | 11, _ => rfl | 12, _ => rfl | 13, _ => rfl | 14, _ => rfl | 15, _ => rfl | 16, _ => rfl | 17, _ => rfl | _ + 18, _ => rfl)
                  exact ⟨by simpa using hsz, hC.put hi, ⟨x.tn, y, x.tk, x.ak⟩, (hF.congr hx).put (Slots.of (by rfl)) hsz rfl, (show TwM wr.drew tb tb (tb + 1) (7 + qd : Nat) c (.slice xa c xc) (.slice ya c yc) ns ks [.string ⟨#[letB k]⟩] cB.cells ((listed.setIfInBounds 8 true).getD 7 false) ((listed.setIfInBounds 8 true).getD 8 false) ((listed.setIfInBounds 8 true).getD 12 false) ((listed.setIfInBounds 8 true).getD 13 false) ((listed.setIfInBounds 8 true).getD 15 false) ((listed.setIfInBounds 8 true).getD 17 false) ⟨x.tn, y, x.tk, x.ak⟩ w3 by rw [getD_setS (by rw [hsz]; decide), getD_setN (show 8 ≠ 7 by decide), getD_setN (show 8 ≠ 12 by decide), getD_setN (show 8 ≠ 13 by decide), getD_setN (show 8 ≠ 15 by decide), getD_setN (show 8 ≠ 17 by decide), l7, l15]; exact a.appN hown hgr hfr)⟩
                · cases ho
                  have e9 := hF.old_is 9 (by rfl) rfl
                  refine QJ.quiet (x := x) hsz hC hi hF (Slots.of (by rfl)) rfl (wanted_none rfl) (show TwM wr.drew tb tb (tb + 1) (7 + qd : Nat) c (.slice xa c xc) (.slice ya c yc) ns ks [.string ⟨#[letB k]⟩] cB.cells ((listed.setIfInBounds 9 true).getD 7 false) ((listed.setIfInBounds 9 true).getD 8 false) ((listed.setIfInBounds 9 true).getD 12 false) ((listed.setIfInBounds 9 true).getD 13 false) ((listed.setIfInBounds 9 true).getD 15 false) ((listed.setIfInBounds 9 true).getD 17 false) x v by rw [getD_setN (show 9 ≠ 7 by decide), getD_setN (show 9 ≠ 8 by decide), getD_setN (show 9 ≠ 12 by decide), getD_setN (show 9 ≠ 13 by decide), getD_setN (show 9 ≠ 15 by decide), getD_setN (show 9 ≠ 17 by decide)]; exact hMb) ?_
                  show _ = Result.ok (Next.value (.pointer (some ⟨tb, 3, none⟩))) v
                  simp [execOp, go_sem, e9]
                · cases ho
                  have l17 : listed.getD 17 false = false := by
                    cases hh : listed.getD 17 false
                    · rfl
                    · have y0 := hC 17 _ rfl hh ⟨10, .phase⟩ (by simp) rfl; rw [hl1] at y0; cases y0
                  have tt := hMb.tat
                  rw [l17, if_neg (show ¬ (false = true) by decide)] at tt
                  obtain ⟨⟨z0, z1, z2, z3⟩, -⟩ := four_blk tt
                  have e77 : b.tmps[77]? = some (.pointer (some ⟨tb, 3, none⟩)) := hF.up 9 77 rfl (hdeps ⟨9, .data⟩ (by simp) rfl)
                  refine QJ.quiet (x := x) hsz hC hi hF (Slots.of (by rfl)) rfl (wanted_none rfl) (show TwM wr.drew tb tb (tb + 1) (7 + qd : Nat) c (.slice xa c xc) (.slice ya c yc) ns ks [.string ⟨#[letB k]⟩] cB.cells ((listed.setIfInBounds 10 true).getD 7 false) ((listed.setIfInBounds 10 true).getD 8 false) ((listed.setIfInBounds 10 true).getD 12 false) ((listed.setIfInBounds 10 true).getD 13 false) ((listed.setIfInBounds 10 true).getD 15 false) ((listed.setIfInBounds 10 true).getD 17 false) x v by rw [getD_setN (show 10 ≠ 7 by decide), getD_setN (show 10 ≠ 8 by decide), getD_setN (show 10 ≠ 12 by decide), getD_setN (show 10 ≠ 13 by decide), getD_setN (show 10 ≠ 15 by decide), getD_setN (show 10 ≠ 17 by decide)]; exact hMb) ?_
                  show _ = Result.ok (Next.value (.slice ya c yc)) v
                  simp [execOp, go_sem, e77, z3]
                · cases ho
                  refine QJ.quiet (x := x) hsz hC hi hF (Slots.of (by rfl)) rfl (wanted_none rfl) (show TwM wr.drew tb tb (tb + 1) (7 + qd : Nat) c (.slice xa c xc) (.slice ya c yc) ns ks [.string ⟨#[letB k]⟩] cB.cells ((listed.setIfInBounds 11 true).getD 7 false) ((listed.setIfInBounds 11 true).getD 8 false) ((listed.setIfInBounds 11 true).getD 12 false) ((listed.setIfInBounds 11 true).getD 13 false) ((listed.setIfInBounds 11 true).getD 15 false) ((listed.setIfInBounds 11 true).getD 17 false) x v by rw [getD_setN (show 11 ≠ 7 by decide), getD_setN (show 11 ≠ 8 by decide), getD_setN (show 11 ≠ 12 by decide), getD_setN (show 11 ≠ 13 by decide), getD_setN (show 11 ≠ 15 by decide), getD_setN (show 11 ≠ 17 by decide)]; exact hMb) ?_
                  show _ = Result.ok (Next.value (.agg #[.int .i64 1, .string ⟨#[]⟩, .slice none 0 0, .slice none 0 0])) v
                  simp [execOp, go_sem]
                · cases ho
                  have e79 : b.tmps[79]? = some (.agg #[.int .i64 1, .string ⟨#[]⟩, .slice none 0 0, .slice none 0 0]) := hF.up 11 79 rfl (hdeps ⟨11, .data⟩ (by simp) rfl)
                  have l13 : listed.getD 13 false = false := by
                    cases hh : listed.getD 13 false
                    · rfl
                    · have y0 := hC 13 _ rfl hh ⟨12, .data⟩ (by simp) rfl; rw [hl1] at y0; cases y0
                  have a := hMb
                  rw [hl1, l13] at a
                  refine QJ.make (v' := v.alloc (.cells #[.int .i64 1, .string ⟨#[]⟩, .slice none 0 0, .slice none 0 0] 31)) (x := x) (x' := ⟨x.tn, x.an, .slice (some ⟨v.heap.size, 0, none⟩) 1 1, x.ak⟩) hsz hC hi hF (Slots.of (by rfl)) rfl (wanted_none rfl) (fun q hq => match q, (show q ≠ 12 by rintro rfl; rw [hl1] at hq; cases hq) with | 0, _ => rfl | 1, _ => rfl | 2, _ => rfl | 3, _ => rfl | 4, _ => rfl | 5, _ => rfl | 6, _ => rfl | 7, _ => rfl | 8, _ => rfl | 9, _ => rfl | 10, _ => rfl | 11, _ => rfl | 12, h => absurd rfl h | 13, _ => rfl | 14, _ => rfl | 15, _ => rfl | 16, _ => rfl | 17, _ => rfl | _ + 18, _ => rfl) (show TwM wr.drew tb tb (tb + 1) (7 + qd : Nat) c (.slice xa c xc) (.slice ya c yc) ns ks [.string ⟨#[letB k]⟩] cB.cells ((listed.setIfInBounds 12 true).getD 7 false) ((listed.setIfInBounds 12 true).getD 8 false) ((listed.setIfInBounds 12 true).getD 12 false) ((listed.setIfInBounds 12 true).getD 13 false) ((listed.setIfInBounds 12 true).getD 15 false) ((listed.setIfInBounds 12 true).getD 17 false) ⟨x.tn, x.an, .slice (some ⟨v.heap.size, 0, none⟩) 1 1, x.ak⟩ (v.alloc (.cells #[.int .i64 1, .string ⟨#[]⟩, .slice none 0 0, .slice none 0 0] 31)) by rw [getD_setS (by rw [hsz]; decide), getD_setN (show 12 ≠ 7 by decide), getD_setN (show 12 ≠ 8 by decide), getD_setN (show 12 ≠ 13 by decide), getD_setN (show 12 ≠ 15 by decide), getD_setN (show 12 ≠ 17 by decide), l13]; exact a.layK) ?_
                  show _ = Result.ok (Next.value (.slice (some ⟨v.heap.size, 0, none⟩) 1 1)) _
                  simp [execOp, go_sem, e79]
                · cases ho
                  have l12 := hdeps ⟨12, .data⟩ (by simp) rfl
                  have l10 := hdeps ⟨10, .data⟩ (by simp) rfl
                  have l17 : listed.getD 17 false = false := by
                    cases hh : listed.getD 17 false
                    · rfl
                    · have y0 := hC 17 _ rfl hh ⟨13, .data⟩ (by simp) rfl; rw [hl1] at y0; cases y0
                  have a := hMb
                  rw [l12, hl1, l17] at a
                  obtain ⟨g, t1, t2, t3, t4⟩ := a.sk.tmp rfl rfl
                  have hvz := a.size
                  have hdz : wr.drew.heap.size = wr.heap.size := rfl
                  refine wpOp_wpG rfl (wanted_none rfl) (Sh.wp_append_fresh (.tmp 78) (.tmp 80) 29 rfl (tb + 1) 31 ik (.agg #[.int .i64 0, .string ⟨#[]⟩, .slice none 0 0, .slice none 0 0]) 4 72 Try.underlying29 HIk.out HJk.out HKk.out HLk.out rfl (by decide) (.slice ya c yc) c ks (hF.eval (i := 10) rfl l10) (a.sk.row rfl) ⟨g, 0, none⟩ 1 1 cB.cells ((hF.eval (i := 12) rfl l12).trans t1) rfl (fun j u hu => by rw [addr_addZ]; simp only [World.cell?, t4]; simpa using hu) (by exact C4.one cB) (by unfold maxLen; omega) (by omega) (by omega) ?_)
                  intro y w3 hown hgr hfr
                  have hx : ∀ j, listed.getD j false = true → ((fun (x : Tw) (qq : Nat) => (match qq with | 0 => .pointer (some ⟨tb, 2, none⟩) | 1 => .slice xa c xc | 2 => .string ⟨#[97, 98, 99, 100, 101, 102, 103, 104]⟩ | 3 => .int .i64 (k : Nat) | 4 => .int .i64 (k : Nat) | 5 => .int .i64 ((k : Nat) + 1) | 6 => .string ⟨#[letB k]⟩ | 7 => x.tn | 8 => x.an | 9 => .pointer (some ⟨tb, 3, none⟩) | 10 => .slice ya c yc | 11 => .agg #[.int .i64 1, .string ⟨#[]⟩, .slice none 0 0, .slice none 0 0] | 12 => x.tk | 13 => x.ak | 14 => .pointer (some ⟨tb, 2, none⟩) | 15 => undef | 16 => .pointer (some ⟨tb, 3, none⟩) | 17 => undef | _ => undef : Value)) ⟨x.tn, x.an, x.tk, y⟩) j = ((fun (x : Tw) (qq : Nat) => (match qq with | 0 => .pointer (some ⟨tb, 2, none⟩) | 1 => .slice xa c xc | 2 => .string ⟨#[97, 98, 99, 100, 101, 102, 103, 104]⟩ | 3 => .int .i64 (k : Nat) | 4 => .int .i64 (k : Nat) | 5 => .int .i64 ((k : Nat) + 1) | 6 => .string ⟨#[letB k]⟩ | 7 => x.tn | 8 => x.an | 9 => .pointer (some ⟨tb, 3, none⟩) | 10 => .slice ya c yc | 11 => .agg #[.int .i64 1, .string ⟨#[]⟩, .slice none 0 0, .slice none 0 0] | 12 => x.tk | 13 => x.ak | 14 => .pointer (some ⟨tb, 2, none⟩) | 15 => undef | 16 => .pointer (some ⟨tb, 3, none⟩) | 17 => undef | _ => undef : Value)) x) j := (fun q hq => match q, (show q ≠ 13 by rintro rfl; rw [hl1] at hq; cases hq) with | 0, _ => rfl | 1, _ => rfl | 2, _ => rfl | 3, _ => rfl | 4, _ => rfl | 5, _ => rfl | 6, _ => rfl | 7, _ => rfl | 8, _ => rfl | 9, _ => rfl | 10, _ => rfl | 11, _ => rfl | 12, _ => rfl | 13, h => absurd rfl h | 14, _ => rfl | 15, _ => rfl | 16, _ => rfl | 17, _ => rfl | _ + 18, _ => rfl)
                  exact ⟨by simpa using hsz, hC.put hi, ⟨x.tn, x.an, x.tk, y⟩, (hF.congr hx).put (Slots.of (by rfl)) hsz rfl, (show TwM wr.drew tb tb (tb + 1) (7 + qd : Nat) c (.slice xa c xc) (.slice ya c yc) ns ks [.string ⟨#[letB k]⟩] cB.cells ((listed.setIfInBounds 13 true).getD 7 false) ((listed.setIfInBounds 13 true).getD 8 false) ((listed.setIfInBounds 13 true).getD 12 false) ((listed.setIfInBounds 13 true).getD 13 false) ((listed.setIfInBounds 13 true).getD 15 false) ((listed.setIfInBounds 13 true).getD 17 false) ⟨x.tn, x.an, x.tk, y⟩ w3 by rw [getD_setS (by rw [hsz]; decide), getD_setN (show 13 ≠ 7 by decide), getD_setN (show 13 ≠ 8 by decide), getD_setN (show 13 ≠ 12 by decide), getD_setN (show 13 ≠ 15 by decide), getD_setN (show 13 ≠ 17 by decide), l12, l17]; exact a.appK hown hgr hfr)⟩
                · cases ho
                  have e9 := hF.old_is 9 (by rfl) rfl
                  refine QJ.quiet (x := x) hsz hC hi hF (Slots.of (by rfl)) rfl (wanted_none rfl) (show TwM wr.drew tb tb (tb + 1) (7 + qd : Nat) c (.slice xa c xc) (.slice ya c yc) ns ks [.string ⟨#[letB k]⟩] cB.cells ((listed.setIfInBounds 14 true).getD 7 false) ((listed.setIfInBounds 14 true).getD 8 false) ((listed.setIfInBounds 14 true).getD 12 false) ((listed.setIfInBounds 14 true).getD 13 false) ((listed.setIfInBounds 14 true).getD 15 false) ((listed.setIfInBounds 14 true).getD 17 false) x v by rw [getD_setN (show 14 ≠ 7 by decide), getD_setN (show 14 ≠ 8 by decide), getD_setN (show 14 ≠ 12 by decide), getD_setN (show 14 ≠ 13 by decide), getD_setN (show 14 ≠ 15 by decide), getD_setN (show 14 ≠ 17 by decide)]; exact hMb) ?_
                  show _ = Result.ok (Next.value (.pointer (some ⟨tb, 2, none⟩))) v
                  simp [execOp, go_sem, e9]
                · cases ho
                  have l8 := hdeps ⟨8, .data⟩ (by simp) rfl
                  have l13 := hdeps ⟨13, .chain⟩ (by simp) rfl
                  have l17 : listed.getD 17 false = false := by
                    cases hh : listed.getD 17 false
                    · rfl
                    · have y0 := hC 17 _ rfl hh ⟨15, .chain⟩ (by simp) rfl; rw [hl1] at y0; cases y0
                  have a := hMb
                  rw [l8, l13, hl1, l17] at a
                  obtain ⟨va, vc, hv'⟩ := own_sliceZ (a.sn.done rfl)
                  have tt := a.tat
                  simp only [Bool.false_eq_true, if_false] at tt
                  obtain ⟨⟨z0, z1, z2, z3⟩, ⟨f0, f1, f2, f3⟩⟩ := four_blk tt
                  have e82 : b.tmps[82]? = some (.pointer (some ⟨tb, 2, none⟩)) := hF.up 14 82 rfl (hdeps ⟨14, .data⟩ (by simp) rfl)
                  have e76 : b.tmps[76]? = some (x.an) := hF.up 8 76 rfl (hdeps ⟨8, .data⟩ (by simp) rfl)
                  refine QJ.store (v' := v.setCell ⟨tb, 2, none⟩ x.an) (x := x) hsz hC hi hF (Slots.of (by rfl)) rfl rfl (wanted_none rfl) (show TwM wr.drew tb tb (tb + 1) (7 + qd : Nat) c (.slice xa c xc) (.slice ya c yc) ns ks [.string ⟨#[letB k]⟩] cB.cells ((listed.setIfInBounds 15 true).getD 7 false) ((listed.setIfInBounds 15 true).getD 8 false) ((listed.setIfInBounds 15 true).getD 12 false) ((listed.setIfInBounds 15 true).getD 13 false) ((listed.setIfInBounds 15 true).getD 15 false) ((listed.setIfInBounds 15 true).getD 17 false) x (v.setCell ⟨tb, 2, none⟩ x.an) by rw [getD_setS (by rw [hsz]; decide), getD_setN (show 15 ≠ 7 by decide), getD_setN (show 15 ≠ 8 by decide), getD_setN (show 15 ≠ 12 by decide), getD_setN (show 15 ≠ 13 by decide), getD_setN (show 15 ≠ 17 by decide), l8, l13, l17]; exact a.putN) ?_
                  rw [hv'] at *
                  simp [execOp, go_sem, e82, e76, z2, f2]
                · cases ho
                  have e9 := hF.old_is 9 (by rfl) rfl
                  refine QJ.quiet (x := x) hsz hC hi hF (Slots.of (by rfl)) rfl (wanted_none rfl) (show TwM wr.drew tb tb (tb + 1) (7 + qd : Nat) c (.slice xa c xc) (.slice ya c yc) ns ks [.string ⟨#[letB k]⟩] cB.cells ((listed.setIfInBounds 16 true).getD 7 false) ((listed.setIfInBounds 16 true).getD 8 false) ((listed.setIfInBounds 16 true).getD 12 false) ((listed.setIfInBounds 16 true).getD 13 false) ((listed.setIfInBounds 16 true).getD 15 false) ((listed.setIfInBounds 16 true).getD 17 false) x v by rw [getD_setN (show 16 ≠ 7 by decide), getD_setN (show 16 ≠ 8 by decide), getD_setN (show 16 ≠ 12 by decide), getD_setN (show 16 ≠ 13 by decide), getD_setN (show 16 ≠ 15 by decide), getD_setN (show 16 ≠ 17 by decide)]; exact hMb) ?_
                  show _ = Result.ok (Next.value (.pointer (some ⟨tb, 3, none⟩))) v
                  simp [execOp, go_sem, e9]
                · cases ho
                  have l8 := hdeps ⟨8, .phase⟩ (by simp) rfl
                  have l13 := hdeps ⟨13, .data⟩ (by simp) rfl
                  have l15 := hdeps ⟨15, .chain⟩ (by simp) rfl
                  have a := hMb
                  rw [l8, l13, l15, hl1] at a
                  obtain ⟨va, vc, hv'⟩ := own_sliceZ (a.sk.done rfl)
                  have tt := a.tat
                  simp only [Bool.false_eq_true, if_false, if_true] at tt
                  obtain ⟨⟨z0, z1, z2, z3⟩, ⟨f0, f1, f2, f3⟩⟩ := four_blk tt
                  have e83 : b.tmps[83]? = some (.pointer (some ⟨tb, 3, none⟩)) := hF.up 16 83 rfl (hdeps ⟨16, .data⟩ (by simp) rfl)
                  have e81 : b.tmps[81]? = some (x.ak) := hF.up 13 81 rfl (hdeps ⟨13, .data⟩ (by simp) rfl)
                  refine QJ.store (v' := v.setCell ⟨tb, 3, none⟩ x.ak) (x := x) hsz hC hi hF (Slots.of (by rfl)) rfl rfl (wanted_none rfl) (show TwM wr.drew tb tb (tb + 1) (7 + qd : Nat) c (.slice xa c xc) (.slice ya c yc) ns ks [.string ⟨#[letB k]⟩] cB.cells ((listed.setIfInBounds 17 true).getD 7 false) ((listed.setIfInBounds 17 true).getD 8 false) ((listed.setIfInBounds 17 true).getD 12 false) ((listed.setIfInBounds 17 true).getD 13 false) ((listed.setIfInBounds 17 true).getD 15 false) ((listed.setIfInBounds 17 true).getD 17 false) x (v.setCell ⟨tb, 3, none⟩ x.ak) by rw [getD_setS (by rw [hsz]; decide), getD_setN (show 17 ≠ 7 by decide), getD_setN (show 17 ≠ 8 by decide), getD_setN (show 17 ≠ 12 by decide), getD_setN (show 17 ≠ 13 by decide), getD_setN (show 17 ≠ 15 by decide), l8, l13, l15]; exact a.putK) ?_
                  rw [hv'] at *
                  simp [execOp, go_sem, e83, e81, z3, f3]
              · intro listed b W5 hJ hr'
                obtain ⟨hsz, hC, xx, hF, hM⟩ := hJ
                have hall := all_upB2 (by rfl) hsz hr'
                have hMb : TwM wr.drew tb tb (tb + 1) (7 + qd : Nat) c (.slice xa c xc) (.slice ya c yc) ns ks [.string ⟨#[letB k]⟩] cB.cells true true true true true true xx W5 := by
                  have h : TwM wr.drew tb tb (tb + 1) (7 + qd : Nat) c (.slice xa c xc) (.slice ya c yc) ns ks [.string ⟨#[letB k]⟩] cB.cells (listed.getD 7 false) (listed.getD 8 false) (listed.getD 12 false) (listed.getD 13 false) (listed.getD 15 false) (listed.getD 17 false) xx W5 := hM
                  rw [hall 7 (by decide), hall 8 (by decide), hall 12 (by decide), hall 13 (by decide), hall 15 (by decide), hall 17 (by decide)] at h
                  exact h
                have hd := hMb.over
                have hb : b = putAll _ _ _ 18 := hF.done (Slots.of (by rfl)) hall
                subst hb
                simp only [putAll]
                simp [dstOf, Act.put]
                have HD := Lib.hid hd; have HNS := Lib.hid hns; have HKS := Lib.hid hks; have HC := Lib.hid hc
                clear hM hF hC hall hr' hsz hMb hd hns hks hcut hN0 hK0 hA0 hT0 hc
                go_wp2
                go_roundw
                case rel => exact ⟨k + 1, xx.an, xx.ak, by go_num, by omega, HD.out.tat, by rw [widL_succ, hf1, if_pos rfl, List.length_append, HC.out, List.length_singleton]; have := HD.out.names; rw [← HNS.out] at this; simpa [wdN] using this, by rw [widL_succ, hf1, if_pos rfl, List.length_append, HC.out, List.length_singleton]; have := HD.out.kids; rw [← HKS.out] at this; simpa [wdK] using this, HD.out.apart, H.out.below.drew.trans HD.out.below⟩
                case measure => simp [intOf]; omega
      · obtain rfl : k = 8 := by omega
        obtain ⟨xa, xc, rfl⟩ := own_sliceZ h.names
        obtain ⟨ya, yc, rfl⟩ := own_sliceZ h.kids
        have hc8 := widL_len f 8
        obtain ⟨⟨t0, t1, t2, t3⟩, -⟩ := four_blk h.tat
        have HW := Lib.hid (HX2.out.trans ((HB4.out.trans h.below).mono hwt2))
        have H := Lib.hid h
        clear h
        obtain ⟨c, hc⟩ : ∃ c, (widL f 8).length = c := ⟨_, rfl⟩
        rw [hc] at hc8 t2 t3
        by_cases hc2 : c < 2
        · have hcz : (c : Int) < 2 := by omega
          go_wp2
          go_ret
          exact ⟨rfl, HW.out⟩
        · have hcz : ¬ (c : Int) < 2 := by omega
          obtain ⟨kk, hkk, hkc⟩ : ∃ kk : Nat, dr % (c : Int) = kk ∧ kk < c := ⟨(dr % (c : Int)).toNat, by have := Int.emod_nonneg dr (show (c : Int) ≠ 0 by omega); omega, by have := Int.emod_lt_of_pos dr (show (0 : Int) < c by omega); omega⟩
          go_upto_region 21 with (go_at_call 10; (refine (within6_is dr c _ kk (by omega) (by omega) h1 h2 hkk).mono ?_); rintro e w' ⟨rfl, rfl⟩)
          go_upto_region 22 with fail
          obtain ⟨yb, hyb⟩ : ∃ yb, yb = wr.heap.size := ⟨_, rfl⟩
          obtain ⟨W5, hW5⟩ : ∃ W5, W5 = wr.alloc (.cells #[.int .i64 (7 + (qd : Int)), .string ⟨#[]⟩, .slice none 0 0, .slice none 0 0] 31) := ⟨_, rfl⟩
          rw [← hW5, ← hyb]
          have hN5 := H.out.names
          rw [hc] at hN5
          rcases hN5.2 with ⟨-, h0⟩ | ⟨gn, cap2, cur, hxe, hbn, hgn, hcc, hcm, -⟩
          · omega
          cases hxe
          have hz5 : W5.heap.size = yb + 1 := by rw [hW5, hyb]; simp
          have hb5 : Below yb wr W5 := by rw [hW5, hyb]; exact (Below.refl _ _).alloc (Nat.le_refl _) _
          have hy5 : W5.heap[yb]? = some (.cells #[.int .i64 (7 + (qd : Int)), .string ⟨#[]⟩, .slice none 0 0, .slice none 0 0] 31 (0, 0)) := by rw [hW5, hyb]; exact heap_alloc_new wr _
          have htbl := (Array.getElem?_eq_some_iff.1 H.out.tat).1
          have hgnl := (Array.getElem?_eq_some_iff.1 hgn).1
          have ht5 := (hb5.block tb (by omega)).trans H.out.tat
          rw [hc] at ht5
          obtain ⟨ns, hns⟩ : ∃ ns, wdN (widL f 8) = ns := ⟨_, rfl⟩
          rw [hns] at hN5
          have hc5 : ∀ j u, ns[j]? = some u → W5.cell? ((⟨gn, 0, none⟩ : Addr).add j) = some u := fun j u hu => by have q := hN5.cells (g := gn) rfl j u hu; rw [addr_addZ] at q ⊢; exact (World.cell?_of_block (hb5.block gn (by omega))).trans q
          have hnl : ns.length = c := by rw [← hns, ← hc]; simp [wdN]
          have hoc : ∀ u ∈ ns, u.oneCell' = true := by rw [← hns]; intro u hu; obtain ⟨z, -, rfl⟩ := List.mem_map.1 hu; rfl
          have htb5 : tb < W5.heap.size := by omega
          have htby : ¬ tb = yb := by omega
          have hgn5 : gn < W5.heap.size := by omega
          have hgny : ¬ gn = yb := by omega
          have HT5 := Lib.hid ht5; have HC5 := Lib.hid hc5; have HNL := Lib.hid hnl; have HOC := Lib.hid hoc; have HY5 := Lib.hid hy5; have HB5 := Lib.hid hb5; have HZ5 := Lib.hid hz5; have HN5 := Lib.hid hN5; have HNS := Lib.hid hns; have HYB := Lib.hid hyb.symm; have HCC8 := Lib.hid hc
          clear ht5 hc5 hnl hoc hb5 hW5 t0 t1 t2 t3 hN5 hns hgn hyb hz5
          obtain ⟨a10, ha10⟩ : ∃ a10 : Addr, a10 = if xc = kk + 1 then ⟨gn, 0, none⟩ else ⟨gn, kk + 1, none⟩ := ⟨_, rfl⟩
          have hk0 : (0 : Int) ≤ (kk : Int) := by omega
          have hk1 : (kk : Int) ≤ (xc : Int) := by omega
          have hk2 : (kk : Int) + 1 ≤ (c : Int) := by omega
          have hk3 : (0 : Int) ≤ (kk : Int) + 1 := by omega
          have hwk : IntKind.i64.wrap ((kk : Int) + 1) = (kk : Int) + 1 := IntWalk.i64_in _ (by omega)
          refine wp_region_by (QJ (fun (x : Sx) qq => match qq with | 0 => x.b0 | 1 => .pointer (some ⟨tb, 2, none⟩) | 2 => .slice (some ⟨gn, 0, none⟩) c xc | 3 => .int .i64 (kk : Nat) | 4 => .slice (some ⟨gn, 0, none⟩) kk xc | 5 => x.a1 | 6 => .pointer (some ⟨tb, 2, none⟩) | 7 => .slice (some ⟨gn, 0, none⟩) c xc | 8 => .int .i64 (kk : Nat) | 9 => .int .i64 ((kk : Nat) + 1) | 10 => .slice (some a10) (c - (kk + 1)) (xc - (kk + 1)) | 11 => x.a2 | 12 => .pointer (some ⟨yb, 2, none⟩) | 13 => undef | _ => undef) (fun x listed v => SfM W5.drew yb (7 + (qd : Int)) kk c ns (listed.getD 0 false) (listed.getD 5 false) (listed.getD 11 false) (listed.getD 13 false) x v)) (by kernel_rfl) ?_ ?_ ?_
          · exact ⟨by simp, Closed.start _, ⟨undef, undef, undef⟩, Fr.start _ _ _, by simp only [rep_getDL]; exact SfM.start (W0 := W5.drew) HY5.out _⟩
          · intro listed b v q hJ hi
            obtain ⟨hsz, hC, x, hF, hM⟩ := hJ
            have hMb : SfM W5.drew yb (7 + (qd : Int)) kk c ns (listed.getD 0 false) (listed.getD 5 false) (listed.getD 11 false) (listed.getD 13 false) x v := hM
            obtain ⟨hl1, hiN⟩ := not_up hsz hi
            obtain ⟨_, o, ho, hdeps⟩ := mem_ready.1 hi
            have hiN : q < 14 := hiN
            obtain rfl | rfl | rfl | rfl | rfl | rfl | rfl | rfl | rfl | rfl | rfl | rfl | rfl | rfl : q = 0 ∨ q = 1 ∨ q = 2 ∨ q = 3 ∨ q = 4 ∨ q = 5 ∨ q = 6 ∨ q = 7 ∨ q = 8 ∨ q = 9 ∨ q = 10 ∨ q = 11 ∨ q = 12 ∨ q = 13 := by omega
            · cases ho
              have l5 : listed.getD 5 false = false := by
                cases hh : listed.getD 5 false
                · rfl
                · have y0 := hC 5 _ rfl hh ⟨0, .data⟩ (by simp) rfl; rw [hl1] at y0; cases y0
              have l11 : listed.getD 11 false = false := by
                cases hh : listed.getD 11 false
                · rfl
                · have y0 := hC 11 _ rfl hh ⟨5, .data⟩ (by simp) rfl; have y1 := hC 5 _ rfl y0 ⟨0, .data⟩ (by simp) rfl; rw [hl1] at y1; cases y1
              have l13 : listed.getD 13 false = false := by
                cases hh : listed.getD 13 false
                · rfl
                · have y0 := hC 13 _ rfl hh ⟨0, .phase⟩ (by simp) rfl; rw [hl1] at y0; cases y0
              have a := hMb
              rw [hl1, l5, l11, l13] at a
              refine QJ.make (v' := v.alloc (.cells #[] 9)) (x := x) (x' := ⟨.slice (some ⟨v.heap.size, 0, none⟩) 0 0, x.a1, x.a2⟩) hsz hC hi hF (Slots.of (by rfl)) rfl (wanted_none rfl) (fun q hq => match q, (show q ≠ 0 by rintro rfl; rw [hl1] at hq; cases hq) with | 0, h => absurd rfl h | 1, _ => rfl | 2, _ => rfl | 3, _ => rfl | 4, _ => rfl | 5, _ => rfl | 6, _ => rfl | 7, _ => rfl | 8, _ => rfl | 9, _ => rfl | 10, _ => rfl | 11, _ => rfl | 12, _ => rfl | 13, _ => rfl | _ + 14, _ => rfl) (show SfM W5.drew yb (7 + (qd : Int)) kk c ns ((listed.setIfInBounds 0 true).getD 0 false) ((listed.setIfInBounds 0 true).getD 5 false) ((listed.setIfInBounds 0 true).getD 11 false) ((listed.setIfInBounds 0 true).getD 13 false) ⟨.slice (some ⟨v.heap.size, 0, none⟩) 0 0, x.a1, x.a2⟩ (v.alloc (.cells #[] 9)) by rw [getD_setS (by rw [hsz]; decide), getD_setN (show 0 ≠ 5 by decide), getD_setN (show 0 ≠ 11 by decide), getD_setN (show 0 ≠ 13 by decide), l5, l11, l13]; exact a.mk0) ?_
              show _ = Result.ok (Next.value (.slice (some ⟨v.heap.size, 0, none⟩) 0 0)) _
              simp [execOp, go_sem]
            · cases ho
              have e9 := hF.old_is 9 (by rfl) rfl
              refine QJ.quiet (x := x) hsz hC hi hF (Slots.of (by rfl)) rfl (wanted_none rfl) (show SfM W5.drew yb (7 + (qd : Int)) kk c ns ((listed.setIfInBounds 1 true).getD 0 false) ((listed.setIfInBounds 1 true).getD 5 false) ((listed.setIfInBounds 1 true).getD 11 false) ((listed.setIfInBounds 1 true).getD 13 false) x v by rw [getD_setN (show 1 ≠ 0 by decide), getD_setN (show 1 ≠ 5 by decide), getD_setN (show 1 ≠ 11 by decide), getD_setN (show 1 ≠ 13 by decide)]; exact hMb) ?_
              show _ = Result.ok (Next.value (.pointer (some ⟨tb, 2, none⟩))) v
              simp [execOp, go_sem, e9]
            · cases ho
              obtain ⟨⟨z0, z1, z2, z3⟩, -⟩ := four_blk ((hMb.keeps.block tb htb5 htby).trans HT5.out)
              have e97 : b.tmps[97]? = some (.pointer (some ⟨tb, 2, none⟩)) := hF.up 1 97 rfl (hdeps ⟨1, .data⟩ (by simp) rfl)
              refine QJ.quiet (x := x) hsz hC hi hF (Slots.of (by rfl)) rfl (wanted_none rfl) (show SfM W5.drew yb (7 + (qd : Int)) kk c ns ((listed.setIfInBounds 2 true).getD 0 false) ((listed.setIfInBounds 2 true).getD 5 false) ((listed.setIfInBounds 2 true).getD 11 false) ((listed.setIfInBounds 2 true).getD 13 false) x v by rw [getD_setN (show 2 ≠ 0 by decide), getD_setN (show 2 ≠ 5 by decide), getD_setN (show 2 ≠ 11 by decide), getD_setN (show 2 ≠ 13 by decide)]; exact hMb) ?_
              show _ = Result.ok (Next.value (.slice (some ⟨gn, 0, none⟩) c xc)) v
              simp [execOp, go_sem, e97, z2]
            · cases ho
              have e14 := hF.old_is 14 (by rfl) rfl
              refine QJ.quiet (x := x) hsz hC hi hF (Slots.of (by rfl)) rfl (wanted_none rfl) (show SfM W5.drew yb (7 + (qd : Int)) kk c ns ((listed.setIfInBounds 3 true).getD 0 false) ((listed.setIfInBounds 3 true).getD 5 false) ((listed.setIfInBounds 3 true).getD 11 false) ((listed.setIfInBounds 3 true).getD 13 false) x v by rw [getD_setN (show 3 ≠ 0 by decide), getD_setN (show 3 ≠ 5 by decide), getD_setN (show 3 ≠ 11 by decide), getD_setN (show 3 ≠ 13 by decide)]; exact hMb) ?_
              show _ = Result.ok (Next.value (.int .i64 (kk : Nat))) v
              simp [execOp, go_sem, e14]
            · cases ho
              have e98 : b.tmps[98]? = some (.slice (some ⟨gn, 0, none⟩) c xc) := hF.up 2 98 rfl (hdeps ⟨2, .data⟩ (by simp) rfl)
              have e99 : b.tmps[99]? = some (.int .i64 (kk : Nat)) := hF.up 3 99 rfl (hdeps ⟨3, .data⟩ (by simp) rfl)
              refine QJ.quiet (x := x) hsz hC hi hF (Slots.of (by rfl)) rfl (wanted_none rfl) (show SfM W5.drew yb (7 + (qd : Int)) kk c ns ((listed.setIfInBounds 4 true).getD 0 false) ((listed.setIfInBounds 4 true).getD 5 false) ((listed.setIfInBounds 4 true).getD 11 false) ((listed.setIfInBounds 4 true).getD 13 false) x v by rw [getD_setN (show 4 ≠ 0 by decide), getD_setN (show 4 ≠ 5 by decide), getD_setN (show 4 ≠ 11 by decide), getD_setN (show 4 ≠ 13 by decide)]; exact hMb) ?_
              show _ = Result.ok (Next.value (.slice (some ⟨gn, 0, none⟩) kk xc)) v
              simp [execOp, go_sem, e98, e99, hk0, hk1]
            · cases ho
              have l4 := hdeps ⟨4, .data⟩ (by simp) rfl
              have l0 := hdeps ⟨0, .data⟩ (by simp) rfl
              have l11 : listed.getD 11 false = false := by
                cases hh : listed.getD 11 false
                · rfl
                · have y0 := hC 11 _ rfl hh ⟨5, .data⟩ (by simp) rfl; rw [hl1] at y0; cases y0
              have l13 : listed.getD 13 false = false := by
                cases hh : listed.getD 13 false
                · rfl
                · have y0 := hC 13 _ rfl hh ⟨5, .phase⟩ (by simp) rfl; rw [hl1] at y0; cases y0
              have a := hMb
              rw [l0, hl1, l11, l13] at a
              have hvz := a.keeps.size
              have hdz : W5.drew.heap.size = W5.heap.size := rfl
              have hcv : ∀ j u, ns[j]? = some u → v.cell? ((⟨gn, 0, none⟩ : Addr).add j) = some u := fun j u hu => by have q := HC5.out j u hu; rw [addr_addZ] at q ⊢; exact (World.cell?_of_block (a.keeps.block gn hgn5 hgny)).trans q
              refine wpOp_wpG rfl (wanted_none rfl) (Sh.wp_append_fresh (.tmp 96) (.tmp 100) 28 rfl W5.drew.heap.size 9 is (.string ⟨#[]⟩) 1 16 Try.underlying28 HIs.out HJs.out HKs.out HLs.out rfl (by decide) x.b0 0 [] (hF.eval (i := 0) rfl l0) (a.e0 rfl rfl) ⟨gn, 0, none⟩ kk xc (ns.take kk) (hF.eval (i := 4) rfl l4) (by rw [List.length_take, HNL.out]; omega) (fun j u hu => hcv j u (by rw [List.getElem?_take] at hu; split at hu; exact hu; cases hu)) (fun u hu => HOC.out u (List.mem_of_mem_take hu)) (by unfold maxLen; omega) (by omega) (by omega) ?_)
              intro y w3 hown hgr hfr
              have hx : ∀ j, listed.getD j false = true → ((fun (x : Sx) (qq : Nat) => (match qq with | 0 => x.b0 | 1 => .pointer (some ⟨tb, 2, none⟩) | 2 => .slice (some ⟨gn, 0, none⟩) c xc | 3 => .int .i64 (kk : Nat) | 4 => .slice (some ⟨gn, 0, none⟩) kk xc | 5 => x.a1 | 6 => .pointer (some ⟨tb, 2, none⟩) | 7 => .slice (some ⟨gn, 0, none⟩) c xc | 8 => .int .i64 (kk : Nat) | 9 => .int .i64 ((kk : Nat) + 1) | 10 => .slice (some a10) (c - (kk + 1)) (xc - (kk + 1)) | 11 => x.a2 | 12 => .pointer (some ⟨yb, 2, none⟩) | 13 => undef | _ => undef : Value)) ⟨x.b0, y, x.a2⟩) j = ((fun (x : Sx) (qq : Nat) => (match qq with | 0 => x.b0 | 1 => .pointer (some ⟨tb, 2, none⟩) | 2 => .slice (some ⟨gn, 0, none⟩) c xc | 3 => .int .i64 (kk : Nat) | 4 => .slice (some ⟨gn, 0, none⟩) kk xc | 5 => x.a1 | 6 => .pointer (some ⟨tb, 2, none⟩) | 7 => .slice (some ⟨gn, 0, none⟩) c xc | 8 => .int .i64 (kk : Nat) | 9 => .int .i64 ((kk : Nat) + 1) | 10 => .slice (some a10) (c - (kk + 1)) (xc - (kk + 1)) | 11 => x.a2 | 12 => .pointer (some ⟨yb, 2, none⟩) | 13 => undef | _ => undef : Value)) x) j := (fun q hq => match q, (show q ≠ 5 by rintro rfl; rw [hl1] at hq; cases hq) with | 0, _ => rfl | 1, _ => rfl | 2, _ => rfl | 3, _ => rfl | 4, _ => rfl | 5, h => absurd rfl h | 6, _ => rfl | 7, _ => rfl | 8, _ => rfl | 9, _ => rfl | 10, _ => rfl | 11, _ => rfl | 12, _ => rfl | 13, _ => rfl | _ + 14, _ => rfl)
              exact ⟨by simpa using hsz, hC.put hi, ⟨x.b0, y, x.a2⟩, (hF.congr hx).put (Slots.of (by rfl)) hsz rfl, (show SfM W5.drew yb (7 + (qd : Int)) kk c ns ((listed.setIfInBounds 5 true).getD 0 false) ((listed.setIfInBounds 5 true).getD 5 false) ((listed.setIfInBounds 5 true).getD 11 false) ((listed.setIfInBounds 5 true).getD 13 false) ⟨x.b0, y, x.a2⟩ w3 by rw [getD_setS (by rw [hsz]; decide), getD_setN (show 5 ≠ 0 by decide), getD_setN (show 5 ≠ 11 by decide), getD_setN (show 5 ≠ 13 by decide), l0, l11, l13]; exact a.app1 hown hgr)⟩
            · cases ho
              have e9 := hF.old_is 9 (by rfl) rfl
              refine QJ.quiet (x := x) hsz hC hi hF (Slots.of (by rfl)) rfl (wanted_none rfl) (show SfM W5.drew yb (7 + (qd : Int)) kk c ns ((listed.setIfInBounds 6 true).getD 0 false) ((listed.setIfInBounds 6 true).getD 5 false) ((listed.setIfInBounds 6 true).getD 11 false) ((listed.setIfInBounds 6 true).getD 13 false) x v by rw [getD_setN (show 6 ≠ 0 by decide), getD_setN (show 6 ≠ 5 by decide), getD_setN (show 6 ≠ 11 by decide), getD_setN (show 6 ≠ 13 by decide)]; exact hMb) ?_
              show _ = Result.ok (Next.value (.pointer (some ⟨tb, 2, none⟩))) v
              simp [execOp, go_sem, e9]
            · cases ho
              obtain ⟨⟨z0, z1, z2, z3⟩, -⟩ := four_blk ((hMb.keeps.block tb htb5 htby).trans HT5.out)
              have e102 : b.tmps[102]? = some (.pointer (some ⟨tb, 2, none⟩)) := hF.up 6 102 rfl (hdeps ⟨6, .data⟩ (by simp) rfl)
              refine QJ.quiet (x := x) hsz hC hi hF (Slots.of (by rfl)) rfl (wanted_none rfl) (show SfM W5.drew yb (7 + (qd : Int)) kk c ns ((listed.setIfInBounds 7 true).getD 0 false) ((listed.setIfInBounds 7 true).getD 5 false) ((listed.setIfInBounds 7 true).getD 11 false) ((listed.setIfInBounds 7 true).getD 13 false) x v by rw [getD_setN (show 7 ≠ 0 by decide), getD_setN (show 7 ≠ 5 by decide), getD_setN (show 7 ≠ 11 by decide), getD_setN (show 7 ≠ 13 by decide)]; exact hMb) ?_
              show _ = Result.ok (Next.value (.slice (some ⟨gn, 0, none⟩) c xc)) v
              simp [execOp, go_sem, e102, z2]
            · cases ho
              have e14 := hF.old_is 14 (by rfl) rfl
              refine QJ.quiet (x := x) hsz hC hi hF (Slots.of (by rfl)) rfl (wanted_none rfl) (show SfM W5.drew yb (7 + (qd : Int)) kk c ns ((listed.setIfInBounds 8 true).getD 0 false) ((listed.setIfInBounds 8 true).getD 5 false) ((listed.setIfInBounds 8 true).getD 11 false) ((listed.setIfInBounds 8 true).getD 13 false) x v by rw [getD_setN (show 8 ≠ 0 by decide), getD_setN (show 8 ≠ 5 by decide), getD_setN (show 8 ≠ 11 by decide), getD_setN (show 8 ≠ 13 by decide)]; exact hMb) ?_
              show _ = Result.ok (Next.value (.int .i64 (kk : Nat))) v
              simp [execOp, go_sem, e14]
            · cases ho
              have e104 : b.tmps[104]? = some (.int .i64 (kk : Nat)) := hF.up 8 104 rfl (hdeps ⟨8, .data⟩ (by simp) rfl)
              refine QJ.quiet (x := x) hsz hC hi hF (Slots.of (by rfl)) rfl (wanted_none rfl) (show SfM W5.drew yb (7 + (qd : Int)) kk c ns ((listed.setIfInBounds 9 true).getD 0 false) ((listed.setIfInBounds 9 true).getD 5 false) ((listed.setIfInBounds 9 true).getD 11 false) ((listed.setIfInBounds 9 true).getD 13 false) x v by rw [getD_setN (show 9 ≠ 0 by decide), getD_setN (show 9 ≠ 5 by decide), getD_setN (show 9 ≠ 11 by decide), getD_setN (show 9 ≠ 13 by decide)]; exact hMb) ?_
              show _ = Result.ok (Next.value (.int .i64 ((kk : Nat) + 1))) v
              simp [execOp, go_sem, e104, hwk]
            · cases ho
              have e103 : b.tmps[103]? = some (.slice (some ⟨gn, 0, none⟩) c xc) := hF.up 7 103 rfl (hdeps ⟨7, .data⟩ (by simp) rfl)
              have e105 : b.tmps[105]? = some (.int .i64 ((kk : Nat) + 1)) := hF.up 9 105 rfl (hdeps ⟨9, .data⟩ (by simp) rfl)
              refine QJ.quiet (x := x) hsz hC hi hF (Slots.of (by rfl)) rfl (wanted_none rfl) (show SfM W5.drew yb (7 + (qd : Int)) kk c ns ((listed.setIfInBounds 10 true).getD 0 false) ((listed.setIfInBounds 10 true).getD 5 false) ((listed.setIfInBounds 10 true).getD 11 false) ((listed.setIfInBounds 10 true).getD 13 false) x v by rw [getD_setN (show 10 ≠ 0 by decide), getD_setN (show 10 ≠ 5 by decide), getD_setN (show 10 ≠ 11 by decide), getD_setN (show 10 ≠ 13 by decide)]; exact hMb) ?_
              show _ = Result.ok (Next.value (.slice (some a10) (c - (kk + 1)) (xc - (kk + 1)))) v
              simp [execOp, go_sem, e103, e105, hk2, hk3, ha10]
              split <;> rfl
            · cases ho
              have l10 := hdeps ⟨10, .data⟩ (by simp) rfl
              have l5 := hdeps ⟨5, .data⟩ (by simp) rfl
              have u0_0 := hdeps ⟨5, .data⟩ (by simp) rfl
              have l0 := hC 5 _ rfl u0_0 ⟨0, .data⟩ (by simp) rfl
              have l13 : listed.getD 13 false = false := by
                cases hh : listed.getD 13 false
                · rfl
                · have y0 := hC 13 _ rfl hh ⟨11, .data⟩ (by simp) rfl; rw [hl1] at y0; cases y0
              have a := hMb
              rw [l0, l5, hl1, l13] at a
              have hvz := a.keeps.size
              have hdz : W5.drew.heap.size = W5.heap.size := rfl
              have hcv : ∀ j u, ns[j]? = some u → v.cell? ((⟨gn, 0, none⟩ : Addr).add j) = some u := fun j u hu => by have q := HC5.out j u hu; rw [addr_addZ] at q ⊢; exact (World.cell?_of_block (a.keeps.block gn hgn5 hgny)).trans q
              refine wpOp_wpG rfl (wanted_none rfl) (Sh.wp_append_fresh (.tmp 101) (.tmp 106) 28 rfl W5.drew.heap.size 9 is (.string ⟨#[]⟩) 1 16 Try.underlying28 HIs.out HJs.out HKs.out HLs.out rfl (by decide) x.a1 kk (ns.take kk) (hF.eval (i := 5) rfl l5) (a.r1 rfl rfl) a10 (c - (kk + 1)) (xc - (kk + 1)) (ns.drop (kk + 1)) (hF.eval (i := 10) rfl l10) (by rw [List.length_drop, HNL.out]; omega) (drop_at HNL.out hcc hkc hcv ha10) (fun u hu => HOC.out u (List.mem_of_mem_drop hu)) (by unfold maxLen; omega) (by omega) (by omega) ?_)
              intro y w3 hown hgr hfr
              have hx : ∀ j, listed.getD j false = true → ((fun (x : Sx) (qq : Nat) => (match qq with | 0 => x.b0 | 1 => .pointer (some ⟨tb, 2, none⟩) | 2 => .slice (some ⟨gn, 0, none⟩) c xc | 3 => .int .i64 (kk : Nat) | 4 => .slice (some ⟨gn, 0, none⟩) kk xc | 5 => x.a1 | 6 => .pointer (some ⟨tb, 2, none⟩) | 7 => .slice (some ⟨gn, 0, none⟩) c xc | 8 => .int .i64 (kk : Nat) | 9 => .int .i64 ((kk : Nat) + 1) | 10 => .slice (some a10) (c - (kk + 1)) (xc - (kk + 1)) | 11 => x.a2 | 12 => .pointer (some ⟨yb, 2, none⟩) | 13 => undef | _ => undef : Value)) ⟨x.b0, x.a1, y⟩) j = ((fun (x : Sx) (qq : Nat) => (match qq with | 0 => x.b0 | 1 => .pointer (some ⟨tb, 2, none⟩) | 2 => .slice (some ⟨gn, 0, none⟩) c xc | 3 => .int .i64 (kk : Nat) | 4 => .slice (some ⟨gn, 0, none⟩) kk xc | 5 => x.a1 | 6 => .pointer (some ⟨tb, 2, none⟩) | 7 => .slice (some ⟨gn, 0, none⟩) c xc | 8 => .int .i64 (kk : Nat) | 9 => .int .i64 ((kk : Nat) + 1) | 10 => .slice (some a10) (c - (kk + 1)) (xc - (kk + 1)) | 11 => x.a2 | 12 => .pointer (some ⟨yb, 2, none⟩) | 13 => undef | _ => undef : Value)) x) j := (fun q hq => match q, (show q ≠ 11 by rintro rfl; rw [hl1] at hq; cases hq) with | 0, _ => rfl | 1, _ => rfl | 2, _ => rfl | 3, _ => rfl | 4, _ => rfl | 5, _ => rfl | 6, _ => rfl | 7, _ => rfl | 8, _ => rfl | 9, _ => rfl | 10, _ => rfl | 11, h => absurd rfl h | 12, _ => rfl | 13, _ => rfl | _ + 14, _ => rfl)
              exact ⟨by simpa using hsz, hC.put hi, ⟨x.b0, x.a1, y⟩, (hF.congr hx).put (Slots.of (by rfl)) hsz rfl, (show SfM W5.drew yb (7 + (qd : Int)) kk c ns ((listed.setIfInBounds 11 true).getD 0 false) ((listed.setIfInBounds 11 true).getD 5 false) ((listed.setIfInBounds 11 true).getD 11 false) ((listed.setIfInBounds 11 true).getD 13 false) ⟨x.b0, x.a1, y⟩ w3 by rw [getD_setS (by rw [hsz]; decide), getD_setN (show 11 ≠ 0 by decide), getD_setN (show 11 ≠ 5 by decide), getD_setN (show 11 ≠ 13 by decide), l0, l5, l13]; exact a.app2 hkc hown hgr)⟩
            · cases ho
              have e15 := hF.old_is 15 (by rfl) rfl
              refine QJ.quiet (x := x) hsz hC hi hF (Slots.of (by rfl)) rfl (wanted_none rfl) (show SfM W5.drew yb (7 + (qd : Int)) kk c ns ((listed.setIfInBounds 12 true).getD 0 false) ((listed.setIfInBounds 12 true).getD 5 false) ((listed.setIfInBounds 12 true).getD 11 false) ((listed.setIfInBounds 12 true).getD 13 false) x v by rw [getD_setN (show 12 ≠ 0 by decide), getD_setN (show 12 ≠ 5 by decide), getD_setN (show 12 ≠ 11 by decide), getD_setN (show 12 ≠ 13 by decide)]; exact hMb) ?_
              show _ = Result.ok (Next.value (.pointer (some ⟨yb, 2, none⟩))) v
              simp [execOp, go_sem, e15]
            · cases ho
              have l0 := hdeps ⟨0, .phase⟩ (by simp) rfl
              have l5 := hdeps ⟨5, .phase⟩ (by simp) rfl
              have l11 := hdeps ⟨11, .data⟩ (by simp) rfl
              have a := hMb
              rw [l0, l5, l11, hl1] at a
              have tt := a.y
              simp only [Bool.false_eq_true, if_false] at tt
              obtain ⟨⟨z0, z1, z2, z3⟩, ⟨f0, f1, f2, f3⟩⟩ := four_blk tt
              obtain ⟨va, vc, hv'⟩ := own_sliceZ (a.r2 rfl)
              have e108 : b.tmps[108]? = some (.pointer (some ⟨yb, 2, none⟩)) := hF.up 12 108 rfl (hdeps ⟨12, .data⟩ (by simp) rfl)
              have e107 : b.tmps[107]? = some (x.a2) := hF.up 11 107 rfl (hdeps ⟨11, .data⟩ (by simp) rfl)
              refine QJ.store (v' := v.setCell ⟨yb, 2, none⟩ x.a2) (x := x) hsz hC hi hF (Slots.of (by rfl)) rfl rfl (wanted_none rfl) (show SfM W5.drew yb (7 + (qd : Int)) kk c ns ((listed.setIfInBounds 13 true).getD 0 false) ((listed.setIfInBounds 13 true).getD 5 false) ((listed.setIfInBounds 13 true).getD 11 false) ((listed.setIfInBounds 13 true).getD 13 false) x (v.setCell ⟨yb, 2, none⟩ x.a2) by rw [getD_setS (by rw [hsz]; decide), getD_setN (show 13 ≠ 0 by decide), getD_setN (show 13 ≠ 5 by decide), getD_setN (show 13 ≠ 11 by decide), l0, l5, l11]; exact a.put) ?_
              rw [hv'] at *
              simp [execOp, go_sem, e108, e107, z2, f2]
          · intro listed b W6 hJ hr'
            obtain ⟨hsz, hC, xx, hF, hM⟩ := hJ
            have hall := all_upB2 (by rfl) hsz hr'
            have hMb : SfM W5.drew yb (7 + (qd : Int)) kk c ns true true true true xx W6 := by
              have h : SfM W5.drew yb (7 + (qd : Int)) kk c ns (listed.getD 0 false) (listed.getD 5 false) (listed.getD 11 false) (listed.getD 13 false) xx W6 := hM
              rw [hall 0 (by decide), hall 5 (by decide), hall 11 (by decide), hall 13 (by decide)] at h
              exact h
            have hb : b = putAll _ _ _ 14 := hF.done (Slots.of (by rfl)) hall
            subst hb
            simp only [putAll]
            simp [dstOf, Act.put]
            have HM6 := Lib.hid hMb
            clear hM hF hC hall hr' hsz hMb
            have hkp := HM6.out.keeps
            have hr2 := HM6.out.r2 rfl
            have hy6 := HM6.out.y
            have hyl := HM6.out.ylt
            obtain ⟨va, vc, hva⟩ := own_sliceZ hr2
            rw [if_pos rfl, hva] at hy6
            rw [hva] at hr2
            have hz6 := hkp.size
            have hd5 : W5.drew.heap.size = W5.heap.size := rfl
            have hK := H.out.kids
            rw [hc] at hK
            obtain ⟨gk, hyk, hgk1, hgk2, hcy⟩ : ∃ gk, ya = some ⟨gk, 0, none⟩ ∧ tb + 1 ≤ gk ∧ gk < wr.heap.size ∧ c ≤ yc := by
              rcases hK.2 with ⟨-, h0⟩ | ⟨gk, cap2, cur, hxe, hbk, hgk, hck, -, -⟩
              · omega
              · cases hxe; exact ⟨gk, rfl, hbk, (Array.getElem?_eq_some_iff.1 hgk).1, hck⟩
            subst hyk
            have ht6 := (hkp.block tb htb5 htby).trans HT5.out
            obtain ⟨⟨t0, t1, t2, t3⟩, -⟩ := four_blk ht6
            obtain ⟨⟨y0, y1, y2, y3⟩, ⟨g0, g1, g2, g3⟩⟩ := four_blk hy6
            have hyc1 : ¬ yc = 1 := by omega
            have hyc2 : (1 : Int) ≤ (c : Int) := by omega
            have hcyz : (c : Int) ≤ (yc : Int) := by omega
            have HKP := Lib.hid hkp; have HR2 := Lib.hid hr2; have HK := Lib.hid hK; have HT6 := Lib.hid ht6; have HY6 := Lib.hid hy6
            clear hkp hr2 hK ht6 hy6 hva
            go_upto_region 24 with fail
            obtain ⟨W7, hW7⟩ : ∃ W7, W7 = W6.setCell ⟨yb, 3, none⟩ (.slice (some ⟨gk, 4, none⟩) (c - 1) (yc - 1)) := ⟨_, rfl⟩
            have hO7 : Only yb W6 W7 := by rw [hW7]; exact (Only.refl _ _).setCell _ _
            have hz7 : W7.heap.size = W6.heap.size := by rw [hW7]; simp
            have hy7 : W7.heap[yb]? = some (.cells #[.int .i64 (7 + (qd : Int)), .string ⟨#[]⟩, .slice va (c - 1) vc, .slice (some ⟨gk, 4, none⟩) (c - 1) (yc - 1)] 31 (0, 0)) := by rw [hW7]; exact set_fourB HY6.out _
            have ht7 := (hO7.block tb (by have := (Array.getElem?_eq_some_iff.1 HT6.out).1; omega) (fun e => htby (by cases e; rfl))).trans HT6.out
            rw [← hW7]
            clear hW7 t0 t1 t2 t3 y0 y1 y2 y3 g0 g1 g2 g3
            have hz5 := HZ5.out
            have hyz := hz5
            have hlc : (widL f 8).length = c := HCC8.out
            have hvals := wid_vals (wr := wr) (W6 := W6) (W7 := W7) (tb := tb) (yb := yb) (gn := gn) (gk := gk) (q := qd) (c := c) (xc := xc) (yc := yc) (vc := vc) (kk := kk) (va := va) (l := widL f 8) hlc hkc (by have := HN5.out; rw [← HNS.out] at this; exact this) HK.out HYB.out (by omega)
              (fun q hq => (HKP.out.block q (by omega) (by omega)).trans (HB5.out.block q hq)) (by omega)
              (by have := HR2.out; rw [← HNS.out, wdN_erase] at this; exact own_kp2 this (by omega)) (fun q h1 h2 => hO7.block q h1 (fun e => h2 (by cases e; rfl)))
            obtain ⟨hvx, hvy⟩ := hvals
            have hbw7 : Below tb w2 W7 := (HB4.out.trans H.out.below).trans ((HB5.out.mono (by omega)).trans ((HKP.out.undrew.below (B := tb) (by omega) (fun q e => by omega)).trans (hO7.below (by omega) (by omega))))
            obtain ⟨⟨fx, fy, sx, sy⟩, a, b, o, T1, T2, T3, hWF⟩ := wid_all f (by omega) (k := kk) (q := qd) (by omega) hq2
            have hB0 : w1.heap.size ≤ w2.heap.size := by have a1 := HS2.out.lo tbl (.inl rfl); have a2 := HS2.out.tab.tlt; omega
            have hs7 := HS2.out.below (by rw [← HTB.out]; exact hbw7)
            have hb07 : w1.heap.size ≤ W7.heap.size := by have := hbw7.size; omega
            have hown : ∀ q, Own tbl rb nb q → q < tb := fun q hq => by rw [HTB.out]; exact HS2.out.tab.lt hq
            have CA := hs7.adds2 hb07 fx sx hvx (fun q hq => ⟨by have := hq.2.2; omega, fun ho => by have := hown q ho; have := hq.1; omega⟩) hWF.a1
            have HCA := Lib.hid CA; have HWF := Lib.hid hWF; have HVY := Lib.hid hvy; have HY7 := Lib.hid hy7; have HBW7 := Lib.hid hbw7; have HOWN := Lib.hid hown; have HFY : Hid (fitZ _ = true ∧ shortZ _ = true) := ⟨fy, sy⟩
            have HW7 := Lib.hid (HW.out.trans (((HB5.out.mono (by omega)).trans ((HKP.out.undrew.below (B := tb) (by omega) (fun q e => by omega)).trans (hO7.below (by omega) (by omega)))).mono hwt2))
            obtain ⟨⟨t0, t1, t2, t3⟩, -⟩ := four_blk ht7
            clear CA hWF hvx hvy hy7 hbw7 hs7 hown fx fy sx sy ht7 HKP HR2 HK HT6 HY6 HM6 hO7
            go_upto_region 25 with (go_at_call 11; (refine HCA.out.mono ?_); rintro e w8 ⟨rb8, nb8, ty8, nu8, rfl, s8, x8, k8, o8⟩; have hz8 := k8.size; have HS8 := Lib.hid s8; have HX8 := Lib.hid x8; have HK8 := Lib.hid k8; have HO8 := Lib.hid o8; clear s8 x8 k8 o8)
            have hyb8 := (HK8.out.block yb (by have := HBW7.out.size; have := HZ5.out; omega) (fun ho => by have := HOWN.out yb ho; omega)).trans HY7.out
            obtain ⟨⟨y0, y1, y2, y3⟩, -⟩ := four_blk hyb8
            have CB := HS8.out.adds2 (by omega) HFY.out.1 HFY.out.2 (HVY.out.keep (S' := fun q => WdS tb yb W6 q) (fun _ h => h) (fun q hq => HK8.out.block q (by have := hq.2.2; omega) (fun ho => by have := HOWN.out q ho; have := hq.1; omega))) (fun q hq => ⟨by have := hq.2.2; omega, fun ho => by
              rcases HO8.out q ho with h | h
              · have := HOWN.out q h; have := hq.1; omega
              · have := hq.2.2; omega⟩) HWF.out.a2
            have HCB := Lib.hid CB
            have HX80 := Lib.hid (HW7.out.trans (HX8.out.mono HX1.out.size))
            clear t0 t1 t2 t3 hyb8 CB
            go_upto_region 26 with (go_at_call 11; (refine HCB.out.mono ?_); rintro e w9 ⟨rb9, nb9, ty9, nu9, rfl, s9, x9, k9, -⟩; have hz9 := k9.size; have HS9 := Lib.hid s9; have HX9 := Lib.hid (HX80.out.trans (x9.mono HX1.out.size)); clear s9 x9 k9)
            clear y0 y1 y2 y3
            go_upto_region 27 with (go_at_call 12; (refine (HS9.out.opts (by omega) HWF.out.al2 HWF.out.a3).mono ?_); rintro e w10 ⟨rb10, nb10, ty10, nu10, rfl, s10, x10, -⟩; have HS10 := Lib.hid s10; have HX10 := Lib.hid (HX9.out.trans (x10.mono HX1.out.size)); clear s10 x10)
            go_upto_region 28 with (go_at_call 13; (refine (HS10.out.le HWF.out.op HWF.out.al HWF.out.bl).mono ?_); rintro e w11 ⟨rfl, x11⟩; rw [show (leL T3 (openK T3 [] 13) _ _).1 = _ from HWF.out.p]; have HS11 := Lib.hid (HS10.out.below x11); have HX11 := Lib.hid (HX10.out.trans (x11.mono HX10.out.size)); clear x11)
            go_upto_region 29 with (go_at_call 13; (refine (HS11.out.le HWF.out.op HWF.out.bl HWF.out.al).mono ?_); rintro e w12 ⟨rfl, x12⟩; rw [show (leL T3 (openK T3 [] 13) _ _).1 = _ from HWF.out.q]; have HS12 := Lib.hid (HS11.out.below x12); have HX12 := Lib.hid (HX11.out.trans (x12.mono HX11.out.size)); clear x12)
            go_upto_region 30 with (go_at_call 13; (refine (HS12.out.le HWF.out.op HWF.out.al HWF.out.ol).mono ?_); rintro e w13 ⟨rfl, x13⟩; rw [show (leL T3 (openK T3 [] 13) _ _).1 = _ from HWF.out.r]; have HS13 := Lib.hid (HS12.out.below x13); have HX13 := Lib.hid (HX12.out.trans (x13.mono HX12.out.size)); clear x13)
            go_upto_region 31 with (go_at_call 13; (refine (HS13.out.le HWF.out.op HWF.out.ol HWF.out.al).mono ?_); rintro e w14 ⟨rfl, x14⟩; rw [show (leL T3 (openK T3 [] 13) _ _).1 = _ from HWF.out.u]; have HX14 := Lib.hid (HX13.out.trans (x14.mono HX13.out.size)); clear x14)
            have hq := HQ.out
            by_cases hk7 : kd.tmod 2 = 1
            · rw [if_pos hk7] at hq
              subst hq
              have tq : (kd.tmod 2 == 1) = true := by simpa using hk7
              clear hk7
              try simp only [decide_eq_false (show ¬ (1 : Nat) = 0 by decide)]
              go_wp2
              all_goals
                go_ret
                exact ⟨rfl, HX14.out⟩
            · rw [if_neg hk7] at hq
              subst hq
              have tq : (kd.tmod 2 == 1) = false := by simpa using hk7
              clear hk7
              go_wp2
              all_goals
                go_ret
                exact ⟨rfl, HX14.out⟩
end Sp
end Go.Proofs.Yteooafgdmpbjeab
