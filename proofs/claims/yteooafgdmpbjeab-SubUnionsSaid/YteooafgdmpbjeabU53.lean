/- SubUnions: its walk. Written by gen_luni.py. -/
import Derived.Test.YteooafgdmpbjeabU52
import Derived.Test.YteooafgdmpbjeabU41
import Derived.Test.YteooafgdmpbjeabU43
namespace Go.Proofs.Yteooafgdmpbjeab
open Go.RowKit
namespace Sp
open Sc
set_option maxRecDepth 100000
def hasU (g : Nat → Int) (k j : Nat) : Bool := (List.range j).any fun i => decide (g i % 8 = (k : Int))
theorem hasU_succ (g : Nat → Int) (k j : Nat) : hasU g k (j + 1) = (hasU g k j || decide (g j % 8 = (k : Int))) := by simp [hasU, List.range_succ]
theorem widU_len (f : Nat → Bool) (n : Nat) : (widL f n).length ≤ n := by
  have := List.length_filter_le f (List.range n)
  rwa [List.length_range] at this
def allU (f g : Nat → Bool) (k : Nat) : Bool := (List.range k).all fun j => !f j || g j
theorem allU_succ (f g : Nat → Bool) (k : Nat) : allU f g (k + 1) = (allU f g k && (!f k || g k)) := by simp [allU, List.range_succ]
structure UnR (W2 : World) (xb yb : Nat) (f g : Nat → Bool) (z : Tz) (av kv : Value) (wr : World) (k : Nat) (xn xk yn yk : Value) (ks : List C4) : Prop where
  av : av = .bool (allU f g k)
  kv : kv = .int .i64 (k : Nat)
  le : k ≤ 8
  s : UnS wr (yb + 1) xb yb (widL f k) (widL g k) z xn xk yn yk ks
  below : Below xb W2 wr
theorem Free.lt4 {w : World} {xb yb : Nat} {xn xk yn yk : Value} {g : Nat} (h1 : g < w.heap.size) (h2 : g ≠ xb) (h3 : g ≠ yb) (h4 : xn.ownBlock ≠ some g) (h5 : xk.ownBlock ≠ some g) (h6 : yn.ownBlock ≠ some g) (h7 : yk.ownBlock ≠ some g) : Free w [xb, yb] [xn, xk, yn, yk] g :=
  ⟨h1, by simp [h2, h3], fun v hv => by simp only [List.mem_cons, List.not_mem_nil, or_false] at hv; rcases hv with rfl | rfl | rfl | rfl <;> assumption⟩
set_option maxHeartbeats 16000000 in
theorem SubUnions_any (ad1 ad2 : Option Addr) (len1 cap1 len2 cap2 : Nat) (g1 g2 : Nat → Int) (wide : Bool) (w : World) (hlen1 : len1 ≤ 9223372036854775807) (hlen2 : len2 ≤ 9223372036854775807)
    (hI1 : ∀ j, j < len1 → ∃ bb off, ad1 = some ⟨bb, off, none⟩ ∧ bb < w.heap.size ∧ w.cell? ⟨bb, off + j, none⟩ = some (.int .i64 (g1 j)) ∧ -9223372036854775808 ≤ g1 j ∧ g1 j ≤ 9223372036854775807)
    (hI2 : ∀ j, j < len2 → ∃ bb off, ad2 = some ⟨bb, off, none⟩ ∧ bb < w.heap.size ∧ w.cell? ⟨bb, off + j, none⟩ = some (.int .i64 (g2 j)) ∧ -9223372036854775808 ≤ g2 j ∧ g2 j ≤ 9223372036854775807) :
    Calls Try.prog 5 #[.slice ad1 len1 cap1, .slice ad2 len2 cap2, .bool wide] w fun e w' => e = .returned (.bool true) ∧ Below w.heap.size w w' := by
  obtain ⟨is, his, js, ks, ls⟩ := info_parts infoS
  obtain ⟨ik, hik, jk, kk, lk⟩ := info_parts infoTz
  have HIs := Lib.hid his; have HJs := Lib.hid js; have HKs := Lib.hid ks; have HLs := Lib.hid ls
  have HIk := Lib.hid hik; have HJk := Lib.hid jk; have HKk := Lib.hid kk; have HLk := Lib.hid lk
  have HI1 := Lib.hid hI1; have HI2 := Lib.hid hI2
  clear his js ks ls hik jk kk lk hI1 hI2
  obtain ⟨f, hf⟩ : ∃ f : Nat → Bool, ∀ k, f k = hasU g1 k (min len1 20) := ⟨fun k => hasU g1 k (min len1 20), fun _ => rfl⟩
  obtain ⟨g, hg⟩ : ∃ g : Nat → Bool, ∀ k, g k = hasU g2 k (min len2 20) := ⟨fun k => hasU g2 k (min len2 20), fun _ => rfl⟩
  have HF := Lib.hid hf; have HG := Lib.hid hg
  clear hf hg
  obtain ⟨z, hz⟩ : ∃ z : Tz, z = if wide then zO else zI := ⟨_, rfl⟩
  have HZ := Lib.hid hz
  clear hz
  go_enter Try.func5, Try.ntmps5
  go_upto_region 5 with (go_at_call 8; (with_reducible refine (known6_any _).mono ?_); rintro e w1 ⟨rfl, x1⟩; have hz1 := x1.size; have HX1 := Lib.hid x1; clear x1)
  obtain ⟨W2, hW2⟩ : ∃ W2, W2 = ((w1.alloc (.cells #[.int .i64 2, .string ⟨#[]⟩, .slice none 0 0, .slice none 0 0] 31)).alloc (.cells #[.int .i64 8, .string ⟨#[]⟩, .slice none 0 0, .slice none 0 0] 31)).alloc (.cells #[.int .i64 8, .string ⟨#[]⟩, .slice none 0 0, .slice none 0 0] 31) := ⟨_, rfl⟩
  have q := made (l := [_, _, _]) hW2
  have hz2 : W2.heap.size = w1.heap.size + 1 + 1 + 1 := by rw [hW2]; simp
  have hb2 : Below w1.heap.size w1 W2 := by rw [hW2]; repeat first | exact Below.refl _ _ | refine Below.alloc ?_ (by simp <;> omega) _
  obtain ⟨ob, hob⟩ : ∃ ob, ob = w1.heap.size := ⟨_, rfl⟩
  obtain ⟨xb, hxb⟩ : ∃ xb, xb = ob + 1 := ⟨_, rfl⟩
  obtain ⟨yb, hyb⟩ : ∃ yb, yb = ob + 1 + 1 := ⟨_, rfl⟩
  have ho2 : W2.heap[ob]? = some (.cells #[.int .i64 2, .string ⟨#[]⟩, .slice none 0 0, .slice none 0 0] 31 (0, 0)) := by rw [hob]; exact q 0 _ rfl
  have hx2 : W2.heap[xb]? = some (.cells #[.int .i64 8, .string ⟨#[]⟩, .slice none 0 0, .slice none 0 0] 31 (0, 0)) := by rw [hxb, hob]; exact q 1 _ rfl
  have hy2 : W2.heap[yb]? = some (.cells #[.int .i64 8, .string ⟨#[]⟩, .slice none 0 0, .slice none 0 0] 31 (0, 0)) := by rw [hyb, hob]; exact q 2 _ rfl
  rw [← hW2, ← hob, ← hyb, ← hxb]
  have hB2 := HX1.out.trans (hb2.mono hz1)
  have hwo : w.heap.size ≤ ob := by omega
  have hoW : W2.heap.size = yb + 1 := by omega
  have hS2 : UnS W2 (yb + 1) xb yb [] [] z (.slice none 0 0) (.slice none 0 0) (.slice none 0 0) (.slice none 0 0) [] :=
    ⟨hx2, hy2, World.ownsRow_nil _ _ _ _, World.ownsRow_nil _ _ _ _, World.ownsRow_nil _ _ _ _, World.ownsRow_nil _ _ _ _, rfl, (fun i h => (by cases h)), (fun _ h => (by cases h)), (fun _ h => (by cases h)), (fun _ h => (by cases h)), (fun _ h => (by cases h)), (fun _ h => (by cases h)), (fun _ h => (by cases h)), by omega, by omega, by omega⟩
  have HO2 := Lib.hid ho2; have HB2 := Lib.hid hB2; have HS2 := Lib.hid hS2; have HOW := Lib.hid hoW; have HXB : Hid (xb = ob + 1 ∧ yb = ob + 1 + 1) := ⟨hxb, hyb⟩
  clear q hW2 hz2 hb2 hob ho2 hx2 hy2 hB2 hS2 hoW hxb hyb hz1
  go_wp2_with fail
  go_loopw [10, 11] (fun av kv wr => ∃ k xn xk yn yk us, UnR W2 xb yb f g z av kv wr k xn xk yn yk us) (fun _ kv _ => 8 - (intOf kv).toNat)
  case atStart => exact ⟨0, _, _, _, _, _, rfl, rfl, by omega, HS2.out, Below.refl _ _⟩
  case round =>
    obtain ⟨k, xn, xk, yn, yk, us, h⟩ := hrel
    obtain rfl := h.av
    obtain rfl := h.kv
    have hk := h.le
    have hwr := h.below.size
    have HALLW := Lib.hid (HB2.out.trans (h.below.mono (by have := HXB.out; omega)))
    by_cases hlt : k < 8
    · have hkz : (k : Int) < 8 := by omega
      have HS := Lib.hid h.s; have HBL := Lib.hid h.below
      clear h
      go_upto_block 2 with fail
      go_cut [12, 14] (fun av2 _ wx => av2 = .bool (f k) ∧ wr = wx)
      case first =>
        go_wp2_with fail
        go_loopw [12, 14] (fun bv iv wx => ∃ j, j ≤ len1 ∧ j ≤ 20 ∧ iv = .int .i64 (j : Nat) ∧ bv = .bool (hasU g1 k j) ∧ wr = wx) (fun _ iv _ => len1 - (intOf iv).toNat)
        case atStart => exact ⟨0, Nat.zero_le _, by omega, rfl, rfl, rfl⟩
        case round =>
          obtain ⟨j, hj, hj20, rfl, rfl, rfl⟩ := hrel
          by_cases hjl : j < len1
          · by_cases h20 : j < 20
            · have hjz : (j : Int) < (len1 : Int) := by omega
              have hj2 : (j : Int) < 20 := by omega
              cases hb : hasU g1 k j with
              | true =>
                go_wp2
                go_roundw
                case rel => exact ⟨j + 1, by omega, by omega, by go_num, by simp [hasU_succ, hb], by simp⟩
                case measure => simp [intOf]; omega
              | false =>
                obtain ⟨bb, off, rfl, hbl, hcj, gl, gu⟩ := HI1.out j hjl
                have hcl := (HALLW.out.cell (p := ⟨bb, off + j, none⟩) hbl).trans hcj
                obtain ⟨n, hn⟩ : ∃ n : Nat, g1 j % 8 = n := ⟨(g1 j % 8).toNat, by omega⟩
                have hbw : bb < wr.heap.size := by have := HALLW.out.size; omega
                have hsc : hasU g1 k (j + 1) = decide (n = k) := by rw [hasU_succ, hb, hn, Bool.false_or]; exact decide_eq_decide.2 (by omega)
                have CW := fun W => within6_is (g1 j) 8 W n (by omega) (by omega) gl gu hn
                have hn8 : n < 8 := by omega
                have HCW := Lib.hid CW; have HSC := Lib.hid hsc
                generalize g1 j = gj at *
                clear CW hsc hn hcj
                by_cases hnk : n = k
                · have tb1 : ((n : Int) == (k : Int)) = true := by simp; omega
                  go_wp2_with (go_at_call 10; (refine (HCW.out _).mono ?_); rintro e w' ⟨rfl, rfl⟩)
                  go_roundw
                  case rel => exact ⟨j + 1, by omega, by omega, by go_num, by simp [HSC.out, hnk], by simp⟩
                  case measure => simp [intOf]; omega
                · have tb1 : ((n : Int) == (k : Int)) = false := by simp; omega
                  go_wp2_with (go_at_call 10; (refine (HCW.out _).mono ?_); rintro e w' ⟨rfl, rfl⟩)
                  go_roundw
                  case rel => exact ⟨j + 1, by omega, by omega, by go_num, by simp [HSC.out, hnk], by simp⟩
                  case measure => simp [intOf]; omega
            · obtain rfl : j = 20 := by omega
              have hjz : ((20 : Nat) : Int) < (len1 : Int) := by omega
              go_wp2
              go_meet
              exact ⟨by rw [HF.out, show min len1 20 = 20 by omega], rfl⟩
          · obtain rfl : len1 = j := by omega
            go_wp2
            go_meet
            exact ⟨by rw [HF.out, show min len1 20 = len1 by omega], rfl⟩
      case rest =>
        obtain ⟨rfl, rfl⟩ := hcut
        obtain ⟨fk, hfk⟩ : ∃ fk, fk = f k := ⟨_, rfl⟩
        rw [← hfk]
        have HFK1 := Lib.hid hfk
        clear hfk
        go_upto_block 4 with fail
        go_cut [13, 15] (fun av2 _ wx => av2 = .bool (g k) ∧ wr = wx)
        case first =>
          go_wp2_with fail
          go_loopw [13, 15] (fun bv iv wx => ∃ j, j ≤ len2 ∧ j ≤ 20 ∧ iv = .int .i64 (j : Nat) ∧ bv = .bool (hasU g2 k j) ∧ wr = wx) (fun _ iv _ => len2 - (intOf iv).toNat)
          case atStart => exact ⟨0, Nat.zero_le _, by omega, rfl, rfl, rfl⟩
          case round =>
            obtain ⟨j, hj, hj20, rfl, rfl, rfl⟩ := hrel
            by_cases hjl : j < len2
            · by_cases h20 : j < 20
              · have hjz : (j : Int) < (len2 : Int) := by omega
                have hj2 : (j : Int) < 20 := by omega
                cases hb : hasU g2 k j with
                | true =>
                  go_wp2
                  go_roundw
                  case rel => exact ⟨j + 1, by omega, by omega, by go_num, by simp [hasU_succ, hb], by simp⟩
                  case measure => simp [intOf]; omega
                | false =>
                  obtain ⟨bb, off, rfl, hbl, hcj, gl, gu⟩ := HI2.out j hjl
                  have hcl := (HALLW.out.cell (p := ⟨bb, off + j, none⟩) hbl).trans hcj
                  obtain ⟨n, hn⟩ : ∃ n : Nat, g2 j % 8 = n := ⟨(g2 j % 8).toNat, by omega⟩
                  have hbw : bb < wr.heap.size := by have := HALLW.out.size; omega
                  have hsc : hasU g2 k (j + 1) = decide (n = k) := by rw [hasU_succ, hb, hn, Bool.false_or]; exact decide_eq_decide.2 (by omega)
                  have CW := fun W => within6_is (g2 j) 8 W n (by omega) (by omega) gl gu hn
                  have hn8 : n < 8 := by omega
                  have HCW := Lib.hid CW; have HSC := Lib.hid hsc
                  generalize g2 j = gj at *
                  clear CW hsc hn hcj
                  by_cases hnk : n = k
                  · have tb1 : ((n : Int) == (k : Int)) = true := by simp; omega
                    go_wp2_with (go_at_call 10; (refine (HCW.out _).mono ?_); rintro e w' ⟨rfl, rfl⟩)
                    go_roundw
                    case rel => exact ⟨j + 1, by omega, by omega, by go_num, by simp [HSC.out, hnk], by simp⟩
                    case measure => simp [intOf]; omega
                  · have tb1 : ((n : Int) == (k : Int)) = false := by simp; omega
                    go_wp2_with (go_at_call 10; (refine (HCW.out _).mono ?_); rintro e w' ⟨rfl, rfl⟩)
                    go_roundw
                    case rel => exact ⟨j + 1, by omega, by omega, by go_num, by simp [HSC.out, hnk], by simp⟩
                    case measure => simp [intOf]; omega
              · obtain rfl : j = 20 := by omega
                have hjz : ((20 : Nat) : Int) < (len2 : Int) := by omega
                go_wp2
                go_meet
                exact ⟨by rw [HG.out, show min len2 20 = 20 by omega], rfl⟩
            · obtain rfl : len2 = j := by omega
              go_wp2
              go_meet
              exact ⟨by rw [HG.out, show min len2 20 = len2 by omega], rfl⟩
        case rest =>
          obtain ⟨rfl, rfl⟩ := hcut
          obtain ⟨gk, hgk⟩ : ∃ gk, gk = g k := ⟨_, rfl⟩
          rw [← hgk]
          have HGK1 := Lib.hid hgk
          clear hgk
          have hcv := conv_atZ (97 + (k : Int)) (letB k) (lower_is k (by omega))
          have hwk : IntKind.i64.wrap (97 + (k : Int)) = 97 + (k : Int) := IntWalk.i64_in _ (by omega)
          go_upto_if 78 with fail
          clear hcv hwk
          obtain ⟨wq, hwq⟩ : ∃ wq, wq = wr.alloc (.cells #[.int .u8 (97 + (k : Int))] 5) := ⟨_, rfl⟩
          have hbq : Below wr.heap.size wr wq := by rw [hwq]; exact (Below.refl _ _).alloc (Nat.le_refl _) _
          rw [← hwq]
          have HSQ := Lib.hid (HS.out.below hbq)
          have HBQ := Lib.hid (HBL.out.trans (hbq.mono (by have := HOW.out; have := HXB.out; omega)))
          clear hwq hbq HS HBL HALLW
          have hxq := HBQ.out.size
          go_cut [] (fun wx => ∃ xn2 xk2, UnS wx (yb + 1) xb yb (widL f (k + 1)) (widL g k) z xn2 xk2 yn yk us ∧ Below xb W2 wx)
          case first =>
            cases fk with
            | false =>
              go_wp2
              go_meet
              case rel => exact ⟨xn, xk, by rw [widL_succ, ← HFK1.out]; exact HSQ.out, HBQ.out⟩
            | true =>
              go_upto_region 20 with fail
              have hN0 := HSQ.out.xnr
              have hK0 := HSQ.out.xkr
              have hA0 := HSQ.out.a1
              have hT0 := HSQ.out.xat
              obtain ⟨xa, xc, rfl⟩ := own_sliceZ hN0
              obtain ⟨ya, yc, rfl⟩ := own_sliceZ hK0
              have hc8 := widU_len f k
              have hyq : yb + 1 ≤ wq.heap.size := by have := HOW.out; omega
              have hb0 := HSQ.out.xB
              have hb1 := Nat.le_refl xb
              have hoq := (HBQ.out.block ob (by have := HXB.out; omega)).trans HO2.out
              have HOQ := Lib.hid hoq
              have HOQ1 : ob < wq.heap.size := (Array.getElem?_eq_some_iff.1 hoq).1
              have HOQ2 : ob ≠ xb := by have := HXB.out; omega
              have HOQ3 : (Value.slice xa (widL f k).length xc).ownBlock ≠ some ob := fun e => by have := (hN0.lt ob e).1; have := HXB.out; omega
              have HOQ4 : (Value.slice ya (widL f k).length yc).ownBlock ≠ some ob := fun e => by have := (hK0.lt ob e).1; have := HXB.out; omega
              obtain ⟨ns, hns⟩ : ∃ ns, wdN (widL f k) = ns := ⟨_, rfl⟩
              obtain ⟨ks0, hks⟩ : ∃ ks0, ((widL f k).flatMap fun _ => cJ.cells) = ks0 := ⟨_, rfl⟩
              rw [hns] at hN0
              rw [hks] at hK0
              obtain ⟨c, hc⟩ : ∃ c, (widL f k).length = c := ⟨_, rfl⟩
              rw [hc] at hc8 hN0 hK0 hA0 hT0 HOQ3 HOQ4
              clear hoq
              refine wp_region_by (QJ (fun (x : Tw) qq => match qq with | 0 => .pointer (some ⟨xb, 2, none⟩) | 1 => .slice xa c xc | 2 => .string ⟨#[letB k]⟩ | 3 => x.tn | 4 => x.an | 5 => .pointer (some ⟨xb, 3, none⟩) | 6 => .slice ya c yc | 7 => .agg #[.int .i64 2, .string ⟨#[]⟩, .slice none 0 0, .slice none 0 0] | 8 => x.tk | 9 => x.ak | 10 => .pointer (some ⟨xb, 2, none⟩) | 11 => undef | 12 => .pointer (some ⟨xb, 3, none⟩) | 13 => undef | _ => undef) (fun x listed v => TwM wq.drew xb xb (yb + 1) 8 c (.slice xa c xc) (.slice ya c yc) ns ks0 [.string ⟨#[letB k]⟩] cJ.cells (listed.getD 3 false) (listed.getD 4 false) (listed.getD 8 false) (listed.getD 9 false) (listed.getD 11 false) (listed.getD 13 false) x v)) (by kernel_rfl) ?_ ?_ ?_
              · exact ⟨by simp, Closed.start _, ⟨undef, undef, undef, undef⟩, Fr.start _ _ _, by simp only [rep_getDL]; exact TwM.start (W0 := wq.drew) hN0 hK0 hA0 hT0 hb0 hb1 _⟩
              · intro listed b v q hJ hi
                obtain ⟨hsz, hC, x, hF, hM⟩ := hJ
                have hMb : TwM wq.drew xb xb (yb + 1) 8 c (.slice xa c xc) (.slice ya c yc) ns ks0 [.string ⟨#[letB k]⟩] cJ.cells (listed.getD 3 false) (listed.getD 4 false) (listed.getD 8 false) (listed.getD 9 false) (listed.getD 11 false) (listed.getD 13 false) x v := hM
                obtain ⟨hl1, hiN⟩ := not_up hsz hi
                obtain ⟨_, o, ho, hdeps⟩ := mem_ready.1 hi
                have hiN : q < 14 := hiN
                obtain rfl | rfl | rfl | rfl | rfl | rfl | rfl | rfl | rfl | rfl | rfl | rfl | rfl | rfl : q = 0 ∨ q = 1 ∨ q = 2 ∨ q = 3 ∨ q = 4 ∨ q = 5 ∨ q = 6 ∨ q = 7 ∨ q = 8 ∨ q = 9 ∨ q = 10 ∨ q = 11 ∨ q = 12 ∨ q = 13 := by omega
                · cases ho
                  have e8 := hF.old_is 8 (by rfl) rfl
                  refine QJ.quiet (x := x) hsz hC hi hF (Slots.of (by rfl)) rfl (wanted_none rfl) (show TwM wq.drew xb xb (yb + 1) 8 c (.slice xa c xc) (.slice ya c yc) ns ks0 [.string ⟨#[letB k]⟩] cJ.cells ((listed.setIfInBounds 0 true).getD 3 false) ((listed.setIfInBounds 0 true).getD 4 false) ((listed.setIfInBounds 0 true).getD 8 false) ((listed.setIfInBounds 0 true).getD 9 false) ((listed.setIfInBounds 0 true).getD 11 false) ((listed.setIfInBounds 0 true).getD 13 false) x v by rw [getD_setN (show 0 ≠ 3 by decide), getD_setN (show 0 ≠ 4 by decide), getD_setN (show 0 ≠ 8 by decide), getD_setN (show 0 ≠ 9 by decide), getD_setN (show 0 ≠ 11 by decide), getD_setN (show 0 ≠ 13 by decide)]; exact hMb) ?_
                  show _ = Result.ok (Next.value (.pointer (some ⟨xb, 2, none⟩))) v
                  simp [execOp, go_sem, e8]
                · cases ho
                  have l11 : listed.getD 11 false = false := by
                    cases hh : listed.getD 11 false
                    · rfl
                    · have y0 := hC 11 _ rfl hh ⟨1, .phase⟩ (by simp) rfl; rw [hl1] at y0; cases y0
                  have tt := hMb.tat
                  rw [l11, if_neg (show ¬ (false = true) by decide)] at tt
                  obtain ⟨⟨z0, z1, z2, z3⟩, -⟩ := four_blk tt
                  have e79 : b.tmps[79]? = some (.pointer (some ⟨xb, 2, none⟩)) := hF.up 0 79 rfl (hdeps ⟨0, .data⟩ (by simp) rfl)
                  refine QJ.quiet (x := x) hsz hC hi hF (Slots.of (by rfl)) rfl (wanted_none rfl) (show TwM wq.drew xb xb (yb + 1) 8 c (.slice xa c xc) (.slice ya c yc) ns ks0 [.string ⟨#[letB k]⟩] cJ.cells ((listed.setIfInBounds 1 true).getD 3 false) ((listed.setIfInBounds 1 true).getD 4 false) ((listed.setIfInBounds 1 true).getD 8 false) ((listed.setIfInBounds 1 true).getD 9 false) ((listed.setIfInBounds 1 true).getD 11 false) ((listed.setIfInBounds 1 true).getD 13 false) x v by rw [getD_setN (show 1 ≠ 3 by decide), getD_setN (show 1 ≠ 4 by decide), getD_setN (show 1 ≠ 8 by decide), getD_setN (show 1 ≠ 9 by decide), getD_setN (show 1 ≠ 11 by decide), getD_setN (show 1 ≠ 13 by decide)]; exact hMb) ?_
                  show _ = Result.ok (Next.value (.slice xa c xc)) v
                  simp [execOp, go_sem, e79, z2]
                · cases ho
                  have e16 := hF.old_is 16 (by rfl) rfl
                  refine QJ.quiet (x := x) hsz hC hi hF (Slots.of (by rfl)) rfl (wanted_none rfl) (show TwM wq.drew xb xb (yb + 1) 8 c (.slice xa c xc) (.slice ya c yc) ns ks0 [.string ⟨#[letB k]⟩] cJ.cells ((listed.setIfInBounds 2 true).getD 3 false) ((listed.setIfInBounds 2 true).getD 4 false) ((listed.setIfInBounds 2 true).getD 8 false) ((listed.setIfInBounds 2 true).getD 9 false) ((listed.setIfInBounds 2 true).getD 11 false) ((listed.setIfInBounds 2 true).getD 13 false) x v by rw [getD_setN (show 2 ≠ 3 by decide), getD_setN (show 2 ≠ 4 by decide), getD_setN (show 2 ≠ 8 by decide), getD_setN (show 2 ≠ 9 by decide), getD_setN (show 2 ≠ 11 by decide), getD_setN (show 2 ≠ 13 by decide)]; exact hMb) ?_
                  show _ = Result.ok (Next.value (.string ⟨#[letB k]⟩)) v
                  simp [execOp, go_sem, e16]
                · cases ho
                  have e81 : b.tmps[81]? = some (.string ⟨#[letB k]⟩) := hF.up 2 81 rfl (hdeps ⟨2, .data⟩ (by simp) rfl)
                  have l4 : listed.getD 4 false = false := by
                    cases hh : listed.getD 4 false
                    · rfl
                    · have y0 := hC 4 _ rfl hh ⟨3, .data⟩ (by simp) rfl; rw [hl1] at y0; cases y0
                  have a := hMb
                  rw [hl1, l4] at a
                  refine QJ.make (v' := v.alloc (.cells #[.string ⟨#[letB k]⟩] 9)) (x := x) (x' := ⟨.slice (some ⟨v.heap.size, 0, none⟩) 1 1, x.an, x.tk, x.ak⟩) hsz hC hi hF (Slots.of (by rfl)) rfl (wanted_none rfl) (fun q hq => match q, (show q ≠ 3 by rintro rfl; rw [hl1] at hq; cases hq) with | 0, _ => rfl | 1, _ => rfl | 2, _ => rfl | 3, h => absurd rfl h | 4, _ => rfl | 5, _ => rfl | 6, _ => rfl | 7, _ => rfl | 8, _ => rfl | 9, _ => rfl | 10, _ => rfl | 11, _ => rfl | 12, _ => rfl | 13, _ => rfl | _ + 14, _ => rfl) (show TwM wq.drew xb xb (yb + 1) 8 c (.slice xa c xc) (.slice ya c yc) ns ks0 [.string ⟨#[letB k]⟩] cJ.cells ((listed.setIfInBounds 3 true).getD 3 false) ((listed.setIfInBounds 3 true).getD 4 false) ((listed.setIfInBounds 3 true).getD 8 false) ((listed.setIfInBounds 3 true).getD 9 false) ((listed.setIfInBounds 3 true).getD 11 false) ((listed.setIfInBounds 3 true).getD 13 false) ⟨.slice (some ⟨v.heap.size, 0, none⟩) 1 1, x.an, x.tk, x.ak⟩ (v.alloc (.cells #[.string ⟨#[letB k]⟩] 9)) by rw [getD_setS (by rw [hsz]; decide), getD_setN (show 3 ≠ 4 by decide), getD_setN (show 3 ≠ 8 by decide), getD_setN (show 3 ≠ 9 by decide), getD_setN (show 3 ≠ 11 by decide), getD_setN (show 3 ≠ 13 by decide), l4]; exact a.layN) ?_
                  show _ = Result.ok (Next.value (.slice (some ⟨v.heap.size, 0, none⟩) 1 1)) _
                  simp [execOp, go_sem, e81]
                · cases ho
                  have l3 := hdeps ⟨3, .data⟩ (by simp) rfl
                  have l1 := hdeps ⟨1, .data⟩ (by simp) rfl
                  have l11 : listed.getD 11 false = false := by
                    cases hh : listed.getD 11 false
                    · rfl
                    · have y0 := hC 11 _ rfl hh ⟨4, .data⟩ (by simp) rfl; rw [hl1] at y0; cases y0
                  have a := hMb
                  rw [l3, hl1, l11] at a
                  obtain ⟨g, t1, t2, t3, t4⟩ := a.sn.tmp rfl rfl
                  have hvz := a.size
                  have hdz : wq.drew.heap.size = wq.heap.size := rfl
                  refine wpOp_wpG rfl (wanted_none rfl) (Sh.wp_append_fresh (.tmp 80) (.tmp 82) 28 rfl (yb + 1) 9 is (.string ⟨#[]⟩) 1 16 Try.underlying28 HIs.out HJs.out HKs.out HLs.out rfl (by decide) (.slice xa c xc) c ns (hF.eval (i := 1) rfl l1) (a.sn.row rfl) ⟨g, 0, none⟩ 1 1 [.string ⟨#[letB k]⟩] ((hF.eval (i := 3) rfl l3).trans t1) rfl (fun j u hu => by rw [addr_addZ]; simp only [World.cell?, t4]; simpa using hu) (by intro z hz; simp at hz; subst hz; rfl) (by unfold maxLen; omega) (by omega) (by omega) ?_)
                  intro y w3 hown hgr hfr
                  have hx : ∀ j, listed.getD j false = true → ((fun (x : Tw) (qq : Nat) => (match qq with | 0 => .pointer (some ⟨xb, 2, none⟩) | 1 => .slice xa c xc | 2 => .string ⟨#[letB k]⟩ | 3 => x.tn | 4 => x.an | 5 => .pointer (some ⟨xb, 3, none⟩) | 6 => .slice ya c yc | 7 => .agg #[.int .i64 2, .string ⟨#[]⟩, .slice none 0 0, .slice none 0 0] | 8 => x.tk | 9 => x.ak | 10 => .pointer (some ⟨xb, 2, none⟩) | 11 => undef | 12 => .pointer (some ⟨xb, 3, none⟩) | 13 => undef | _ => undef : Value)) ⟨x.tn, y, x.tk, x.ak⟩) j = ((fun (x : Tw) (qq : Nat) => (match qq with | 0 => .pointer (some ⟨xb, 2, none⟩) | 1 => .slice xa c xc | 2 => .string ⟨#[letB k]⟩ | 3 => x.tn | 4 => x.an | 5 => .pointer (some ⟨xb, 3, none⟩) | 6 => .slice ya c yc | 7 => .agg #[.int .i64 2, .string ⟨#[]⟩, .slice none 0 0, .slice none 0 0] | 8 => x.tk | 9 => x.ak | 10 => .pointer (some ⟨xb, 2, none⟩) | 11 => undef | 12 => .pointer (some ⟨xb, 3, none⟩) | 13 => undef | _ => undef : Value)) x) j := (fun q hq => match q, (show q ≠ 4 by rintro rfl; rw [hl1] at hq; cases hq) with | 0, _ => rfl | 1, _ => rfl | 2, _ => rfl | 3, _ => rfl | 4, h => absurd rfl h | 5, _ => rfl | 6, _ => rfl | 7, _ => rfl | 8, _ => rfl | 9, _ => rfl | 10, _ => rfl | 11, _ => rfl | 12, _ => rfl | 13, _ => rfl | _ + 14, _ => rfl)
                  exact ⟨by simpa using hsz, hC.put hi, ⟨x.tn, y, x.tk, x.ak⟩, (hF.congr hx).put (Slots.of (by rfl)) hsz rfl, (show TwM wq.drew xb xb (yb + 1) 8 c (.slice xa c xc) (.slice ya c yc) ns ks0 [.string ⟨#[letB k]⟩] cJ.cells ((listed.setIfInBounds 4 true).getD 3 false) ((listed.setIfInBounds 4 true).getD 4 false) ((listed.setIfInBounds 4 true).getD 8 false) ((listed.setIfInBounds 4 true).getD 9 false) ((listed.setIfInBounds 4 true).getD 11 false) ((listed.setIfInBounds 4 true).getD 13 false) ⟨x.tn, y, x.tk, x.ak⟩ w3 by rw [getD_setS (by rw [hsz]; decide), getD_setN (show 4 ≠ 3 by decide), getD_setN (show 4 ≠ 8 by decide), getD_setN (show 4 ≠ 9 by decide), getD_setN (show 4 ≠ 11 by decide), getD_setN (show 4 ≠ 13 by decide), l3, l11]; exact a.appN hown hgr hfr)⟩
                · cases ho
                  have e8 := hF.old_is 8 (by rfl) rfl
                  refine QJ.quiet (x := x) hsz hC hi hF (Slots.of (by rfl)) rfl (wanted_none rfl) (show TwM wq.drew xb xb (yb + 1) 8 c (.slice xa c xc) (.slice ya c yc) ns ks0 [.string ⟨#[letB k]⟩] cJ.cells ((listed.setIfInBounds 5 true).getD 3 false) ((listed.setIfInBounds 5 true).getD 4 false) ((listed.setIfInBounds 5 true).getD 8 false) ((listed.setIfInBounds 5 true).getD 9 false) ((listed.setIfInBounds 5 true).getD 11 false) ((listed.setIfInBounds 5 true).getD 13 false) x v by rw [getD_setN (show 5 ≠ 3 by decide), getD_setN (show 5 ≠ 4 by decide), getD_setN (show 5 ≠ 8 by decide), getD_setN (show 5 ≠ 9 by decide), getD_setN (show 5 ≠ 11 by decide), getD_setN (show 5 ≠ 13 by decide)]; exact hMb) ?_
                  show _ = Result.ok (Next.value (.pointer (some ⟨xb, 3, none⟩))) v
                  simp [execOp, go_sem, e8]
                · cases ho
                  have l13 : listed.getD 13 false = false := by
                    cases hh : listed.getD 13 false
                    · rfl
                    · have y0 := hC 13 _ rfl hh ⟨6, .phase⟩ (by simp) rfl; rw [hl1] at y0; cases y0
                  have tt := hMb.tat
                  rw [l13, if_neg (show ¬ (false = true) by decide)] at tt
                  obtain ⟨⟨z0, z1, z2, z3⟩, -⟩ := four_blk tt
                  have e84 : b.tmps[84]? = some (.pointer (some ⟨xb, 3, none⟩)) := hF.up 5 84 rfl (hdeps ⟨5, .data⟩ (by simp) rfl)
                  refine QJ.quiet (x := x) hsz hC hi hF (Slots.of (by rfl)) rfl (wanted_none rfl) (show TwM wq.drew xb xb (yb + 1) 8 c (.slice xa c xc) (.slice ya c yc) ns ks0 [.string ⟨#[letB k]⟩] cJ.cells ((listed.setIfInBounds 6 true).getD 3 false) ((listed.setIfInBounds 6 true).getD 4 false) ((listed.setIfInBounds 6 true).getD 8 false) ((listed.setIfInBounds 6 true).getD 9 false) ((listed.setIfInBounds 6 true).getD 11 false) ((listed.setIfInBounds 6 true).getD 13 false) x v by rw [getD_setN (show 6 ≠ 3 by decide), getD_setN (show 6 ≠ 4 by decide), getD_setN (show 6 ≠ 8 by decide), getD_setN (show 6 ≠ 9 by decide), getD_setN (show 6 ≠ 11 by decide), getD_setN (show 6 ≠ 13 by decide)]; exact hMb) ?_
                  show _ = Result.ok (Next.value (.slice ya c yc)) v
                  simp [execOp, go_sem, e84, z3]
                · cases ho
                  obtain ⟨⟨o0, o1, o2, o3⟩, -⟩ := four_blk ((hMb.far ob HOQ1 HOQ2 HOQ3 HOQ4).trans HOQ.out)
                  have e7 := hF.old_is 7 (by rfl) rfl
                  refine QJ.quiet (x := x) hsz hC hi hF (Slots.of (by rfl)) rfl (wanted_none rfl) (show TwM wq.drew xb xb (yb + 1) 8 c (.slice xa c xc) (.slice ya c yc) ns ks0 [.string ⟨#[letB k]⟩] cJ.cells ((listed.setIfInBounds 7 true).getD 3 false) ((listed.setIfInBounds 7 true).getD 4 false) ((listed.setIfInBounds 7 true).getD 8 false) ((listed.setIfInBounds 7 true).getD 9 false) ((listed.setIfInBounds 7 true).getD 11 false) ((listed.setIfInBounds 7 true).getD 13 false) x v by rw [getD_setN (show 7 ≠ 3 by decide), getD_setN (show 7 ≠ 4 by decide), getD_setN (show 7 ≠ 8 by decide), getD_setN (show 7 ≠ 9 by decide), getD_setN (show 7 ≠ 11 by decide), getD_setN (show 7 ≠ 13 by decide)]; exact hMb) ?_
                  show _ = Result.ok (Next.value (.agg #[.int .i64 2, .string ⟨#[]⟩, .slice none 0 0, .slice none 0 0])) v
                  simp [execOp, go_sem, e7, o0, o1, o2, o3]
                · cases ho
                  have e86 : b.tmps[86]? = some (.agg #[.int .i64 2, .string ⟨#[]⟩, .slice none 0 0, .slice none 0 0]) := hF.up 7 86 rfl (hdeps ⟨7, .data⟩ (by simp) rfl)
                  have l9 : listed.getD 9 false = false := by
                    cases hh : listed.getD 9 false
                    · rfl
                    · have y0 := hC 9 _ rfl hh ⟨8, .data⟩ (by simp) rfl; rw [hl1] at y0; cases y0
                  have a := hMb
                  rw [hl1, l9] at a
                  refine QJ.make (v' := v.alloc (.cells #[.int .i64 2, .string ⟨#[]⟩, .slice none 0 0, .slice none 0 0] 31)) (x := x) (x' := ⟨x.tn, x.an, .slice (some ⟨v.heap.size, 0, none⟩) 1 1, x.ak⟩) hsz hC hi hF (Slots.of (by rfl)) rfl (wanted_none rfl) (fun q hq => match q, (show q ≠ 8 by rintro rfl; rw [hl1] at hq; cases hq) with | 0, _ => rfl | 1, _ => rfl | 2, _ => rfl | 3, _ => rfl | 4, _ => rfl | 5, _ => rfl | 6, _ => rfl | 7, _ => rfl | 8, h => absurd rfl h | 9, _ => rfl | 10, _ => rfl | 11, _ => rfl | 12, _ => rfl | 13, _ => rfl | _ + 14, _ => rfl) (show TwM wq.drew xb xb (yb + 1) 8 c (.slice xa c xc) (.slice ya c yc) ns ks0 [.string ⟨#[letB k]⟩] cJ.cells ((listed.setIfInBounds 8 true).getD 3 false) ((listed.setIfInBounds 8 true).getD 4 false) ((listed.setIfInBounds 8 true).getD 8 false) ((listed.setIfInBounds 8 true).getD 9 false) ((listed.setIfInBounds 8 true).getD 11 false) ((listed.setIfInBounds 8 true).getD 13 false) ⟨x.tn, x.an, .slice (some ⟨v.heap.size, 0, none⟩) 1 1, x.ak⟩ (v.alloc (.cells #[.int .i64 2, .string ⟨#[]⟩, .slice none 0 0, .slice none 0 0] 31)) by rw [getD_setS (by rw [hsz]; decide), getD_setN (show 8 ≠ 3 by decide), getD_setN (show 8 ≠ 4 by decide), getD_setN (show 8 ≠ 9 by decide), getD_setN (show 8 ≠ 11 by decide), getD_setN (show 8 ≠ 13 by decide), l9]; exact a.layK) ?_
                  show _ = Result.ok (Next.value (.slice (some ⟨v.heap.size, 0, none⟩) 1 1)) _
                  simp [execOp, go_sem, e86]
                · cases ho
                  have l8 := hdeps ⟨8, .data⟩ (by simp) rfl
                  have l6 := hdeps ⟨6, .data⟩ (by simp) rfl
                  have l13 : listed.getD 13 false = false := by
                    cases hh : listed.getD 13 false
                    · rfl
                    · have y0 := hC 13 _ rfl hh ⟨9, .data⟩ (by simp) rfl; rw [hl1] at y0; cases y0
                  have a := hMb
                  rw [l8, hl1, l13] at a
                  obtain ⟨g, t1, t2, t3, t4⟩ := a.sk.tmp rfl rfl
                  have hvz := a.size
                  have hdz : wq.drew.heap.size = wq.heap.size := rfl
                  refine wpOp_wpG rfl (wanted_none rfl) (Sh.wp_append_fresh (.tmp 85) (.tmp 87) 29 rfl (yb + 1) 31 ik (.agg #[.int .i64 0, .string ⟨#[]⟩, .slice none 0 0, .slice none 0 0]) 4 72 Try.underlying29 HIk.out HJk.out HKk.out HLk.out rfl (by decide) (.slice ya c yc) c ks0 (hF.eval (i := 6) rfl l6) (a.sk.row rfl) ⟨g, 0, none⟩ 1 1 cJ.cells ((hF.eval (i := 8) rfl l8).trans t1) rfl (fun j u hu => by rw [addr_addZ]; simp only [World.cell?, t4]; simpa using hu) (by exact C4.one cJ) (by unfold maxLen; omega) (by omega) (by omega) ?_)
                  intro y w3 hown hgr hfr
                  have hx : ∀ j, listed.getD j false = true → ((fun (x : Tw) (qq : Nat) => (match qq with | 0 => .pointer (some ⟨xb, 2, none⟩) | 1 => .slice xa c xc | 2 => .string ⟨#[letB k]⟩ | 3 => x.tn | 4 => x.an | 5 => .pointer (some ⟨xb, 3, none⟩) | 6 => .slice ya c yc | 7 => .agg #[.int .i64 2, .string ⟨#[]⟩, .slice none 0 0, .slice none 0 0] | 8 => x.tk | 9 => x.ak | 10 => .pointer (some ⟨xb, 2, none⟩) | 11 => undef | 12 => .pointer (some ⟨xb, 3, none⟩) | 13 => undef | _ => undef : Value)) ⟨x.tn, x.an, x.tk, y⟩) j = ((fun (x : Tw) (qq : Nat) => (match qq with | 0 => .pointer (some ⟨xb, 2, none⟩) | 1 => .slice xa c xc | 2 => .string ⟨#[letB k]⟩ | 3 => x.tn | 4 => x.an | 5 => .pointer (some ⟨xb, 3, none⟩) | 6 => .slice ya c yc | 7 => .agg #[.int .i64 2, .string ⟨#[]⟩, .slice none 0 0, .slice none 0 0] | 8 => x.tk | 9 => x.ak | 10 => .pointer (some ⟨xb, 2, none⟩) | 11 => undef | 12 => .pointer (some ⟨xb, 3, none⟩) | 13 => undef | _ => undef : Value)) x) j := (fun q hq => match q, (show q ≠ 9 by rintro rfl; rw [hl1] at hq; cases hq) with | 0, _ => rfl | 1, _ => rfl | 2, _ => rfl | 3, _ => rfl | 4, _ => rfl | 5, _ => rfl | 6, _ => rfl | 7, _ => rfl | 8, _ => rfl | 9, h => absurd rfl h | 10, _ => rfl | 11, _ => rfl | 12, _ => rfl | 13, _ => rfl | _ + 14, _ => rfl)
                  exact ⟨by simpa using hsz, hC.put hi, ⟨x.tn, x.an, x.tk, y⟩, (hF.congr hx).put (Slots.of (by rfl)) hsz rfl, (show TwM wq.drew xb xb (yb + 1) 8 c (.slice xa c xc) (.slice ya c yc) ns ks0 [.string ⟨#[letB k]⟩] cJ.cells ((listed.setIfInBounds 9 true).getD 3 false) ((listed.setIfInBounds 9 true).getD 4 false) ((listed.setIfInBounds 9 true).getD 8 false) ((listed.setIfInBounds 9 true).getD 9 false) ((listed.setIfInBounds 9 true).getD 11 false) ((listed.setIfInBounds 9 true).getD 13 false) ⟨x.tn, x.an, x.tk, y⟩ w3 by rw [getD_setS (by rw [hsz]; decide), getD_setN (show 9 ≠ 3 by decide), getD_setN (show 9 ≠ 4 by decide), getD_setN (show 9 ≠ 8 by decide), getD_setN (show 9 ≠ 11 by decide), getD_setN (show 9 ≠ 13 by decide), l8, l13]; exact a.appK hown hgr hfr)⟩
                · cases ho
                  have e8 := hF.old_is 8 (by rfl) rfl
                  refine QJ.quiet (x := x) hsz hC hi hF (Slots.of (by rfl)) rfl (wanted_none rfl) (show TwM wq.drew xb xb (yb + 1) 8 c (.slice xa c xc) (.slice ya c yc) ns ks0 [.string ⟨#[letB k]⟩] cJ.cells ((listed.setIfInBounds 10 true).getD 3 false) ((listed.setIfInBounds 10 true).getD 4 false) ((listed.setIfInBounds 10 true).getD 8 false) ((listed.setIfInBounds 10 true).getD 9 false) ((listed.setIfInBounds 10 true).getD 11 false) ((listed.setIfInBounds 10 true).getD 13 false) x v by rw [getD_setN (show 10 ≠ 3 by decide), getD_setN (show 10 ≠ 4 by decide), getD_setN (show 10 ≠ 8 by decide), getD_setN (show 10 ≠ 9 by decide), getD_setN (show 10 ≠ 11 by decide), getD_setN (show 10 ≠ 13 by decide)]; exact hMb) ?_
                  show _ = Result.ok (Next.value (.pointer (some ⟨xb, 2, none⟩))) v
                  simp [execOp, go_sem, e8]
                · cases ho
                  have l4 := hdeps ⟨4, .data⟩ (by simp) rfl
                  have l9 := hdeps ⟨9, .chain⟩ (by simp) rfl
                  have l13 : listed.getD 13 false = false := by
                    cases hh : listed.getD 13 false
                    · rfl
                    · have y0 := hC 13 _ rfl hh ⟨11, .chain⟩ (by simp) rfl; rw [hl1] at y0; cases y0
                  have a := hMb
                  rw [l4, l9, hl1, l13] at a
                  obtain ⟨va, vc, hv'⟩ := own_sliceZ (a.sn.done rfl)
                  have tt := a.tat
                  simp only [Bool.false_eq_true, if_false] at tt
                  obtain ⟨⟨z0, z1, z2, z3⟩, ⟨f0, f1, f2, f3⟩⟩ := four_blk tt
                  have e89 : b.tmps[89]? = some (.pointer (some ⟨xb, 2, none⟩)) := hF.up 10 89 rfl (hdeps ⟨10, .data⟩ (by simp) rfl)
                  have e83 : b.tmps[83]? = some (x.an) := hF.up 4 83 rfl (hdeps ⟨4, .data⟩ (by simp) rfl)
                  refine QJ.store (v' := v.setCell ⟨xb, 2, none⟩ x.an) (x := x) hsz hC hi hF (Slots.of (by rfl)) rfl rfl (wanted_none rfl) (show TwM wq.drew xb xb (yb + 1) 8 c (.slice xa c xc) (.slice ya c yc) ns ks0 [.string ⟨#[letB k]⟩] cJ.cells ((listed.setIfInBounds 11 true).getD 3 false) ((listed.setIfInBounds 11 true).getD 4 false) ((listed.setIfInBounds 11 true).getD 8 false) ((listed.setIfInBounds 11 true).getD 9 false) ((listed.setIfInBounds 11 true).getD 11 false) ((listed.setIfInBounds 11 true).getD 13 false) x (v.setCell ⟨xb, 2, none⟩ x.an) by rw [getD_setS (by rw [hsz]; decide), getD_setN (show 11 ≠ 3 by decide), getD_setN (show 11 ≠ 4 by decide), getD_setN (show 11 ≠ 8 by decide), getD_setN (show 11 ≠ 9 by decide), getD_setN (show 11 ≠ 13 by decide), l4, l9, l13]; exact a.putN) ?_
                  rw [hv'] at *
                  simp [execOp, go_sem, e89, e83, z2, f2]
                · cases ho
                  have e8 := hF.old_is 8 (by rfl) rfl
                  refine QJ.quiet (x := x) hsz hC hi hF (Slots.of (by rfl)) rfl (wanted_none rfl) (show TwM wq.drew xb xb (yb + 1) 8 c (.slice xa c xc) (.slice ya c yc) ns ks0 [.string ⟨#[letB k]⟩] cJ.cells ((listed.setIfInBounds 12 true).getD 3 false) ((listed.setIfInBounds 12 true).getD 4 false) ((listed.setIfInBounds 12 true).getD 8 false) ((listed.setIfInBounds 12 true).getD 9 false) ((listed.setIfInBounds 12 true).getD 11 false) ((listed.setIfInBounds 12 true).getD 13 false) x v by rw [getD_setN (show 12 ≠ 3 by decide), getD_setN (show 12 ≠ 4 by decide), getD_setN (show 12 ≠ 8 by decide), getD_setN (show 12 ≠ 9 by decide), getD_setN (show 12 ≠ 11 by decide), getD_setN (show 12 ≠ 13 by decide)]; exact hMb) ?_
                  show _ = Result.ok (Next.value (.pointer (some ⟨xb, 3, none⟩))) v
                  simp [execOp, go_sem, e8]
                · cases ho
                  have l4 := hdeps ⟨4, .phase⟩ (by simp) rfl
                  have l9 := hdeps ⟨9, .data⟩ (by simp) rfl
                  have l11 := hdeps ⟨11, .chain⟩ (by simp) rfl
                  have a := hMb
                  rw [l4, l9, l11, hl1] at a
                  obtain ⟨va, vc, hv'⟩ := own_sliceZ (a.sk.done rfl)
                  have tt := a.tat
                  simp only [Bool.false_eq_true, if_false, if_true] at tt
                  obtain ⟨⟨z0, z1, z2, z3⟩, ⟨f0, f1, f2, f3⟩⟩ := four_blk tt
                  have e90 : b.tmps[90]? = some (.pointer (some ⟨xb, 3, none⟩)) := hF.up 12 90 rfl (hdeps ⟨12, .data⟩ (by simp) rfl)
                  have e88 : b.tmps[88]? = some (x.ak) := hF.up 9 88 rfl (hdeps ⟨9, .data⟩ (by simp) rfl)
                  refine QJ.store (v' := v.setCell ⟨xb, 3, none⟩ x.ak) (x := x) hsz hC hi hF (Slots.of (by rfl)) rfl rfl (wanted_none rfl) (show TwM wq.drew xb xb (yb + 1) 8 c (.slice xa c xc) (.slice ya c yc) ns ks0 [.string ⟨#[letB k]⟩] cJ.cells ((listed.setIfInBounds 13 true).getD 3 false) ((listed.setIfInBounds 13 true).getD 4 false) ((listed.setIfInBounds 13 true).getD 8 false) ((listed.setIfInBounds 13 true).getD 9 false) ((listed.setIfInBounds 13 true).getD 11 false) ((listed.setIfInBounds 13 true).getD 13 false) x (v.setCell ⟨xb, 3, none⟩ x.ak) by rw [getD_setS (by rw [hsz]; decide), getD_setN (show 13 ≠ 3 by decide), getD_setN (show 13 ≠ 4 by decide), getD_setN (show 13 ≠ 8 by decide), getD_setN (show 13 ≠ 9 by decide), getD_setN (show 13 ≠ 11 by decide), l4, l9, l11]; exact a.putK) ?_
                  rw [hv'] at *
                  simp [execOp, go_sem, e90, e88, z3, f3]
              · intro listed b W5 hJ hr'
                obtain ⟨hsz, hC, xx, hF, hM⟩ := hJ
                have hall := all_upB2 (by rfl) hsz hr'
                have hMb : TwM wq.drew xb xb (yb + 1) 8 c (.slice xa c xc) (.slice ya c yc) ns ks0 [.string ⟨#[letB k]⟩] cJ.cells true true true true true true xx W5 := by
                  have h : TwM wq.drew xb xb (yb + 1) 8 c (.slice xa c xc) (.slice ya c yc) ns ks0 [.string ⟨#[letB k]⟩] cJ.cells (listed.getD 3 false) (listed.getD 4 false) (listed.getD 8 false) (listed.getD 9 false) (listed.getD 11 false) (listed.getD 13 false) xx W5 := hM
                  rw [hall 3 (by decide), hall 4 (by decide), hall 8 (by decide), hall 9 (by decide), hall 11 (by decide), hall 13 (by decide)] at h
                  exact h
                have hd := hMb.over
                have hfr := hMb.fresh
                have hb : b = putAll _ _ _ 14 := hF.done (Slots.of (by rfl)) hall
                subst hb
                simp only [putAll]
                simp [dstOf, Act.put]
                have HD := Lib.hid hd; have HFR := Lib.hid hfr
                clear hM hF hC hall hr' hsz hMb hd hfr hN0 hK0 hA0 hT0 hb0 hb1
                have hs2 := UnS.addX (B0 := xb) (k := k) (HSQ.out.below (Below.refl _ _).drew) (by have hd := HD.out; rw [← hns, ← hks, ← hc] at hd; exact hd) (by have hf := HFR.out; rw [← hc] at hf; exact hf)
                have HS3 := Lib.hid hs2
                have HB3 := Lib.hid (HBQ.out.drew.trans HD.out.below)
                clear hs2 hns hks hc HD HFR HOQ HOQ1 HOQ2 HOQ3 HOQ4
                go_wp2
                go_meet
                case rel => exact ⟨_, _, by rw [widL_succ, ← HFK1.out]; exact HS3.out, HB3.out⟩
          case rest =>
            clear HSQ HBQ hxq
            obtain ⟨xn2, xk2, hs3, hb3⟩ := hcut
            obtain ⟨wp, hwp⟩ : ∃ wp, wp = wc := ⟨wc, rfl⟩
            subst hwp
            have hxq := hb3.size
            have HSQ := Lib.hid hs3; have HBQ := Lib.hid hb3
            clear hs3 hb3
            go_upto_if 91 with fail
            go_cut [17] (fun _ wx => ∃ yn2 yk2 us2, UnS wx (yb + 1) xb yb (widL f (k + 1)) (widL g (k + 1)) z xn2 xk2 yn2 yk2 us2 ∧ Below xb W2 wx)
            case first =>
              cases gk with
              | false =>
                go_wp2
                go_meet
                case rel => exact ⟨yn, yk, us, by rw [widL_succ g, ← HGK1.out]; exact HSQ.out, HBQ.out⟩
              | true =>
                have hoq := (HBQ.out.block ob (by have := HXB.out; have := HOW.out; omega)).trans HO2.out
                obtain ⟨⟨o0, o1, o2, o3⟩, -⟩ := four_blk hoq
                have hoz : ob < wp.heap.size := (Array.getElem?_eq_some_iff.1 hoq).1
                clear hoq
                go_upto_if 93 with fail
                obtain ⟨wk, hwk⟩ : ∃ wk, wk = wp.alloc (.cells #[.int .i64 2, .string ⟨#[]⟩, .slice none 0 0, .slice none 0 0] 31) := ⟨_, rfl⟩
                have hzk : wk.heap.size = wp.heap.size + 1 := by rw [hwk]; simp
                have hbk : Below wp.heap.size wp wk := by rw [hwk]; exact (Below.refl _ _).alloc (Nat.le_refl _) _
                have hkk : wk.heap[wp.heap.size]? = some (.cells #[.int .i64 2, .string ⟨#[]⟩, .slice none 0 0, .slice none 0 0] 31 (0, 0)) := by rw [hwk]; exact heap_alloc_new wp _
                rw [← hwk]
                obtain ⟨kb, hkb⟩ : ∃ kb, kb = wp.heap.size := ⟨_, rfl⟩
                rw [← hkb] at hzk hkk ⊢
                have o0' : wk.cell? ⟨ob, 0, none⟩ = some (.int .i64 2) := (hbk.cell (p := ⟨ob, 0, none⟩) hoz).trans o0
                have o1' : wk.cell? ⟨ob, 1, none⟩ = some (.string ⟨#[]⟩) := (hbk.cell (p := ⟨ob, 1, none⟩) hoz).trans o1
                have o2' : wk.cell? ⟨ob, 2, none⟩ = some (.slice none 0 0) := (hbk.cell (p := ⟨ob, 2, none⟩) hoz).trans o2
                have o3' : wk.cell? ⟨ob, 3, none⟩ = some (.slice none 0 0) := (hbk.cell (p := ⟨ob, 3, none⟩) hoz).trans o3
                obtain ⟨⟨t0, t1, t2, t3⟩, ⟨f0, f1, f2, f3⟩⟩ := four_blk hkk
                have hkl : kb < wk.heap.size := by omega
                have hok : ob < wk.heap.size := by omega
                have hob2 : ¬ ob = kb := by omega
                have hSk := HSQ.out.below hbk
                have HKK := Lib.hid hkk; have HBK := Lib.hid hbk; have HSK := Lib.hid hSk; have HKB := Lib.hid hkb
                clear hwk hkk hbk hSk o0 o1 o2 o3 hkb
                go_cut [] (fun wx => ∃ cK : C4, wx.heap[kb]? = some (.cells #[.int .i64 cK.k, .string cK.n, .slice cK.an cK.ln cK.cn, .slice cK.ak cK.lk cK.ck] 31 (0, 0)) ∧ TzV wx (Free wx [kb, xb, yb] [xn2, xk2, yn, yk]) z cK ∧ Below wp.heap.size wp wx)
                case first =>
                  cases wide with
                  | false =>
                    go_wp2
                    go_meet
                    case rel => exact ⟨⟨2, ⟨#[]⟩, none, 0, 0, none, 0, 0⟩, HKK.out, by rw [HZ.out]; exact TzV.leaf _ _ 2 [], HBK.out⟩
                  | true =>
                    go_wp2
                    go_meet
                    case rel =>
                      have hs4 := HSK.out
                      have lx := (Array.getElem?_eq_some_iff.1 hs4.xat).1
                      have ly := (Array.getElem?_eq_some_iff.1 hs4.yat).1
                      have hh := nest_kid (wr := wk) (X := [kb, xb, yb]) (vs := [xn2, xk2, yn, yk]) (ty2 := 31) (t := zI) (c := ⟨2, ⟨#[]⟩, none, 0, 0, none, 0, 0⟩) 6 HKK.out (TzV.leaf _ _ 2 []) (fun x hx => by simp at hx; rcases hx with rfl | rfl | rfl <;> omega) (by simp) (fun v hv q e => by simp only [List.mem_cons, List.not_mem_nil, or_false] at hv; rcases hv with rfl | rfl | rfl | rfl; exact (hs4.xnr.lt q e).2; exact (hs4.xkr.lt q e).2; exact (hs4.ynr.lt q e).2; exact (hs4.ykr.lt q e).2)
                      rw [hzk] at hh
                      exact ⟨_, hh.at_, by rw [HZ.out]; exact hh.val, HBK.out.trans (hh.only.below (B := wp.heap.size) (by have := HKB.out; omega) (by have := HKB.out; omega))⟩
                case rest =>
                  clear t0 t1 t2 t3 f0 f1 f2 f3 o0' o1' o2' o3' HKK HBK HSK
                  obtain ⟨cK, hck, hvk, hbk⟩ := hcut
                  obtain ⟨wz, hwz⟩ : ∃ wz, wz = wc := ⟨wc, rfl⟩
                  subst hwz
                  have HSZ := Lib.hid (HSQ.out.below hbk)
                  have HBZ := Lib.hid (HBQ.out.trans (hbk.mono (by have := HOW.out; have := HXB.out; omega)))
                  have hvz : TzV wz (Free wz [xb, yb] [xn2, xk2, yn, yk]) z cK := hvk.keep (fun q hq => ⟨hq.1, fun e => hq.2.1 (List.mem_cons_of_mem _ e), hq.2.2⟩) (fun _ _ => rfl)
                  have HKQ := Lib.hid hck; have HVZ := Lib.hid hvz
                  have HFK : Hid (yn.ownBlock ≠ some kb ∧ yk.ownBlock ≠ some kb) := ⟨fun e => by have := (HSQ.out.ynr.lt kb e).2; have := HKB.out; omega, fun e => by have := (HSQ.out.ykr.lt kb e).2; have := HKB.out; omega⟩
                  clear hvk hbk hvz HSQ HBQ
                  have hxz := HBZ.out.size
                  go_upto_region 25 with fail
                  have hN0 := HSZ.out.ynr
                  have hK0 := HSZ.out.ykr
                  have hA0 := HSZ.out.a2
                  have hT0 := HSZ.out.yat
                  obtain ⟨xa, xc, rfl⟩ := own_sliceZ hN0
                  obtain ⟨ya, yc, rfl⟩ := own_sliceZ hK0
                  have hc8 := widU_len g k
                  have hyq : yb + 1 ≤ wz.heap.size := by have := HOW.out; omega
                  have hb0 := HSZ.out.yB
                  have hb1 : xb ≤ yb := by have := HXB.out; omega
                  have ylt := (Array.getElem?_eq_some_iff.1 hT0).1
                  have HKQ1 : kb < wz.heap.size := (Array.getElem?_eq_some_iff.1 hck).1
                  have hyw : yb < wp.heap.size := by have := HOW.out; omega
                  have HKQ2 : kb ≠ yb := by have := HKB.out; omega
                  have HKQ3 : (Value.slice xa (widL g k).length xc).ownBlock ≠ some kb := fun e => HFK.out.1 e
                  have HKQ4 : (Value.slice ya (widL g k).length yc).ownBlock ≠ some kb := fun e => HFK.out.2 e
                  obtain ⟨ns, hns⟩ : ∃ ns, wdN (widL g k) = ns := ⟨_, rfl⟩
                  obtain ⟨ks0, hks⟩ : ∃ ks0, us.flatMap C4.cells = ks0 := ⟨_, rfl⟩
                  rw [hns] at hN0
                  rw [hks] at hK0
                  obtain ⟨c, hc⟩ : ∃ c, (widL g k).length = c := ⟨_, rfl⟩
                  rw [hc] at hc8 hN0 hK0 hA0 hT0 HKQ3 HKQ4
                  clear hck
                  refine wp_region_by (QJ (fun (x : Tw) qq => match qq with | 0 => .pointer (some ⟨yb, 2, none⟩) | 1 => .slice xa c xc | 2 => .string ⟨#[letB k]⟩ | 3 => x.tn | 4 => x.an | 5 => .pointer (some ⟨yb, 3, none⟩) | 6 => .slice ya c yc | 7 => .agg #[.int .i64 cK.k, .string cK.n, .slice cK.an cK.ln cK.cn, .slice cK.ak cK.lk cK.ck] | 8 => x.tk | 9 => x.ak | 10 => .pointer (some ⟨yb, 2, none⟩) | 11 => undef | 12 => .pointer (some ⟨yb, 3, none⟩) | 13 => undef | _ => undef) (fun x listed v => TwM wz.drew xb yb (yb + 1) 8 c (.slice xa c xc) (.slice ya c yc) ns ks0 [.string ⟨#[letB k]⟩] cK.cells (listed.getD 3 false) (listed.getD 4 false) (listed.getD 8 false) (listed.getD 9 false) (listed.getD 11 false) (listed.getD 13 false) x v)) (by kernel_rfl) ?_ ?_ ?_
                  · exact ⟨by simp, Closed.start _, ⟨undef, undef, undef, undef⟩, Fr.start _ _ _, by simp only [rep_getDL]; exact TwM.start (W0 := wz.drew) hN0 hK0 hA0 hT0 hb0 hb1 _⟩
                  · intro listed b v q hJ hi
                    obtain ⟨hsz, hC, x, hF, hM⟩ := hJ
                    have hMb : TwM wz.drew xb yb (yb + 1) 8 c (.slice xa c xc) (.slice ya c yc) ns ks0 [.string ⟨#[letB k]⟩] cK.cells (listed.getD 3 false) (listed.getD 4 false) (listed.getD 8 false) (listed.getD 9 false) (listed.getD 11 false) (listed.getD 13 false) x v := hM
                    obtain ⟨hl1, hiN⟩ := not_up hsz hi
                    obtain ⟨_, o, ho, hdeps⟩ := mem_ready.1 hi
                    have hiN : q < 14 := hiN
                    obtain rfl | rfl | rfl | rfl | rfl | rfl | rfl | rfl | rfl | rfl | rfl | rfl | rfl | rfl : q = 0 ∨ q = 1 ∨ q = 2 ∨ q = 3 ∨ q = 4 ∨ q = 5 ∨ q = 6 ∨ q = 7 ∨ q = 8 ∨ q = 9 ∨ q = 10 ∨ q = 11 ∨ q = 12 ∨ q = 13 := by omega
                    · cases ho
                      have e9 := hF.old_is 9 (by rfl) rfl
                      refine QJ.quiet (x := x) hsz hC hi hF (Slots.of (by rfl)) rfl (wanted_none rfl) (show TwM wz.drew xb yb (yb + 1) 8 c (.slice xa c xc) (.slice ya c yc) ns ks0 [.string ⟨#[letB k]⟩] cK.cells ((listed.setIfInBounds 0 true).getD 3 false) ((listed.setIfInBounds 0 true).getD 4 false) ((listed.setIfInBounds 0 true).getD 8 false) ((listed.setIfInBounds 0 true).getD 9 false) ((listed.setIfInBounds 0 true).getD 11 false) ((listed.setIfInBounds 0 true).getD 13 false) x v by rw [getD_setN (show 0 ≠ 3 by decide), getD_setN (show 0 ≠ 4 by decide), getD_setN (show 0 ≠ 8 by decide), getD_setN (show 0 ≠ 9 by decide), getD_setN (show 0 ≠ 11 by decide), getD_setN (show 0 ≠ 13 by decide)]; exact hMb) ?_
                      show _ = Result.ok (Next.value (.pointer (some ⟨yb, 2, none⟩))) v
                      simp [execOp, go_sem, e9]
                    · cases ho
                      have l11 : listed.getD 11 false = false := by
                        cases hh : listed.getD 11 false
                        · rfl
                        · have y0 := hC 11 _ rfl hh ⟨1, .phase⟩ (by simp) rfl; rw [hl1] at y0; cases y0
                      have tt := hMb.tat
                      rw [l11, if_neg (show ¬ (false = true) by decide)] at tt
                      obtain ⟨⟨z0, z1, z2, z3⟩, -⟩ := four_blk tt
                      have e97 : b.tmps[97]? = some (.pointer (some ⟨yb, 2, none⟩)) := hF.up 0 97 rfl (hdeps ⟨0, .data⟩ (by simp) rfl)
                      refine QJ.quiet (x := x) hsz hC hi hF (Slots.of (by rfl)) rfl (wanted_none rfl) (show TwM wz.drew xb yb (yb + 1) 8 c (.slice xa c xc) (.slice ya c yc) ns ks0 [.string ⟨#[letB k]⟩] cK.cells ((listed.setIfInBounds 1 true).getD 3 false) ((listed.setIfInBounds 1 true).getD 4 false) ((listed.setIfInBounds 1 true).getD 8 false) ((listed.setIfInBounds 1 true).getD 9 false) ((listed.setIfInBounds 1 true).getD 11 false) ((listed.setIfInBounds 1 true).getD 13 false) x v by rw [getD_setN (show 1 ≠ 3 by decide), getD_setN (show 1 ≠ 4 by decide), getD_setN (show 1 ≠ 8 by decide), getD_setN (show 1 ≠ 9 by decide), getD_setN (show 1 ≠ 11 by decide), getD_setN (show 1 ≠ 13 by decide)]; exact hMb) ?_
                      show _ = Result.ok (Next.value (.slice xa c xc)) v
                      simp [execOp, go_sem, e97, z2]
                    · cases ho
                      have e16 := hF.old_is 16 (by rfl) rfl
                      refine QJ.quiet (x := x) hsz hC hi hF (Slots.of (by rfl)) rfl (wanted_none rfl) (show TwM wz.drew xb yb (yb + 1) 8 c (.slice xa c xc) (.slice ya c yc) ns ks0 [.string ⟨#[letB k]⟩] cK.cells ((listed.setIfInBounds 2 true).getD 3 false) ((listed.setIfInBounds 2 true).getD 4 false) ((listed.setIfInBounds 2 true).getD 8 false) ((listed.setIfInBounds 2 true).getD 9 false) ((listed.setIfInBounds 2 true).getD 11 false) ((listed.setIfInBounds 2 true).getD 13 false) x v by rw [getD_setN (show 2 ≠ 3 by decide), getD_setN (show 2 ≠ 4 by decide), getD_setN (show 2 ≠ 8 by decide), getD_setN (show 2 ≠ 9 by decide), getD_setN (show 2 ≠ 11 by decide), getD_setN (show 2 ≠ 13 by decide)]; exact hMb) ?_
                      show _ = Result.ok (Next.value (.string ⟨#[letB k]⟩)) v
                      simp [execOp, go_sem, e16]
                    · cases ho
                      have e99 : b.tmps[99]? = some (.string ⟨#[letB k]⟩) := hF.up 2 99 rfl (hdeps ⟨2, .data⟩ (by simp) rfl)
                      have l4 : listed.getD 4 false = false := by
                        cases hh : listed.getD 4 false
                        · rfl
                        · have y0 := hC 4 _ rfl hh ⟨3, .data⟩ (by simp) rfl; rw [hl1] at y0; cases y0
                      have a := hMb
                      rw [hl1, l4] at a
                      refine QJ.make (v' := v.alloc (.cells #[.string ⟨#[letB k]⟩] 9)) (x := x) (x' := ⟨.slice (some ⟨v.heap.size, 0, none⟩) 1 1, x.an, x.tk, x.ak⟩) hsz hC hi hF (Slots.of (by rfl)) rfl (wanted_none rfl) (fun q hq => match q, (show q ≠ 3 by rintro rfl; rw [hl1] at hq; cases hq) with | 0, _ => rfl | 1, _ => rfl | 2, _ => rfl | 3, h => absurd rfl h | 4, _ => rfl | 5, _ => rfl | 6, _ => rfl | 7, _ => rfl | 8, _ => rfl | 9, _ => rfl | 10, _ => rfl | 11, _ => rfl | 12, _ => rfl | 13, _ => rfl | _ + 14, _ => rfl) (show TwM wz.drew xb yb (yb + 1) 8 c (.slice xa c xc) (.slice ya c yc) ns ks0 [.string ⟨#[letB k]⟩] cK.cells ((listed.setIfInBounds 3 true).getD 3 false) ((listed.setIfInBounds 3 true).getD 4 false) ((listed.setIfInBounds 3 true).getD 8 false) ((listed.setIfInBounds 3 true).getD 9 false) ((listed.setIfInBounds 3 true).getD 11 false) ((listed.setIfInBounds 3 true).getD 13 false) ⟨.slice (some ⟨v.heap.size, 0, none⟩) 1 1, x.an, x.tk, x.ak⟩ (v.alloc (.cells #[.string ⟨#[letB k]⟩] 9)) by rw [getD_setS (by rw [hsz]; decide), getD_setN (show 3 ≠ 4 by decide), getD_setN (show 3 ≠ 8 by decide), getD_setN (show 3 ≠ 9 by decide), getD_setN (show 3 ≠ 11 by decide), getD_setN (show 3 ≠ 13 by decide), l4]; exact a.layN) ?_
                      show _ = Result.ok (Next.value (.slice (some ⟨v.heap.size, 0, none⟩) 1 1)) _
                      simp [execOp, go_sem, e99]
                    · cases ho
                      have l3 := hdeps ⟨3, .data⟩ (by simp) rfl
                      have l1 := hdeps ⟨1, .data⟩ (by simp) rfl
                      have l11 : listed.getD 11 false = false := by
                        cases hh : listed.getD 11 false
                        · rfl
                        · have y0 := hC 11 _ rfl hh ⟨4, .data⟩ (by simp) rfl; rw [hl1] at y0; cases y0
                      have a := hMb
                      rw [l3, hl1, l11] at a
                      obtain ⟨g, t1, t2, t3, t4⟩ := a.sn.tmp rfl rfl
                      have hvz := a.size
                      have hdz : wz.drew.heap.size = wz.heap.size := rfl
                      refine wpOp_wpG rfl (wanted_none rfl) (Sh.wp_append_fresh (.tmp 98) (.tmp 100) 28 rfl (yb + 1) 9 is (.string ⟨#[]⟩) 1 16 Try.underlying28 HIs.out HJs.out HKs.out HLs.out rfl (by decide) (.slice xa c xc) c ns (hF.eval (i := 1) rfl l1) (a.sn.row rfl) ⟨g, 0, none⟩ 1 1 [.string ⟨#[letB k]⟩] ((hF.eval (i := 3) rfl l3).trans t1) rfl (fun j u hu => by rw [addr_addZ]; simp only [World.cell?, t4]; simpa using hu) (by intro z hz; simp at hz; subst hz; rfl) (by unfold maxLen; omega) (by omega) (by omega) ?_)
                      intro y w3 hown hgr hfr
                      have hx : ∀ j, listed.getD j false = true → ((fun (x : Tw) (qq : Nat) => (match qq with | 0 => .pointer (some ⟨yb, 2, none⟩) | 1 => .slice xa c xc | 2 => .string ⟨#[letB k]⟩ | 3 => x.tn | 4 => x.an | 5 => .pointer (some ⟨yb, 3, none⟩) | 6 => .slice ya c yc | 7 => .agg #[.int .i64 cK.k, .string cK.n, .slice cK.an cK.ln cK.cn, .slice cK.ak cK.lk cK.ck] | 8 => x.tk | 9 => x.ak | 10 => .pointer (some ⟨yb, 2, none⟩) | 11 => undef | 12 => .pointer (some ⟨yb, 3, none⟩) | 13 => undef | _ => undef : Value)) ⟨x.tn, y, x.tk, x.ak⟩) j = ((fun (x : Tw) (qq : Nat) => (match qq with | 0 => .pointer (some ⟨yb, 2, none⟩) | 1 => .slice xa c xc | 2 => .string ⟨#[letB k]⟩ | 3 => x.tn | 4 => x.an | 5 => .pointer (some ⟨yb, 3, none⟩) | 6 => .slice ya c yc | 7 => .agg #[.int .i64 cK.k, .string cK.n, .slice cK.an cK.ln cK.cn, .slice cK.ak cK.lk cK.ck] | 8 => x.tk | 9 => x.ak | 10 => .pointer (some ⟨yb, 2, none⟩) | 11 => undef | 12 => .pointer (some ⟨yb, 3, none⟩) | 13 => undef | _ => undef : Value)) x) j := (fun q hq => match q, (show q ≠ 4 by rintro rfl; rw [hl1] at hq; cases hq) with | 0, _ => rfl | 1, _ => rfl | 2, _ => rfl | 3, _ => rfl | 4, h => absurd rfl h | 5, _ => rfl | 6, _ => rfl | 7, _ => rfl | 8, _ => rfl | 9, _ => rfl | 10, _ => rfl | 11, _ => rfl | 12, _ => rfl | 13, _ => rfl | _ + 14, _ => rfl)
                      exact ⟨by simpa using hsz, hC.put hi, ⟨x.tn, y, x.tk, x.ak⟩, (hF.congr hx).put (Slots.of (by rfl)) hsz rfl, (show TwM wz.drew xb yb (yb + 1) 8 c (.slice xa c xc) (.slice ya c yc) ns ks0 [.string ⟨#[letB k]⟩] cK.cells ((listed.setIfInBounds 4 true).getD 3 false) ((listed.setIfInBounds 4 true).getD 4 false) ((listed.setIfInBounds 4 true).getD 8 false) ((listed.setIfInBounds 4 true).getD 9 false) ((listed.setIfInBounds 4 true).getD 11 false) ((listed.setIfInBounds 4 true).getD 13 false) ⟨x.tn, y, x.tk, x.ak⟩ w3 by rw [getD_setS (by rw [hsz]; decide), getD_setN (show 4 ≠ 3 by decide), getD_setN (show 4 ≠ 8 by decide), getD_setN (show 4 ≠ 9 by decide), getD_setN (show 4 ≠ 11 by decide), getD_setN (show 4 ≠ 13 by decide), l3, l11]; exact a.appN hown hgr hfr)⟩
                    · cases ho
                      have e9 := hF.old_is 9 (by rfl) rfl
                      refine QJ.quiet (x := x) hsz hC hi hF (Slots.of (by rfl)) rfl (wanted_none rfl) (show TwM wz.drew xb yb (yb + 1) 8 c (.slice xa c xc) (.slice ya c yc) ns ks0 [.string ⟨#[letB k]⟩] cK.cells ((listed.setIfInBounds 5 true).getD 3 false) ((listed.setIfInBounds 5 true).getD 4 false) ((listed.setIfInBounds 5 true).getD 8 false) ((listed.setIfInBounds 5 true).getD 9 false) ((listed.setIfInBounds 5 true).getD 11 false) ((listed.setIfInBounds 5 true).getD 13 false) x v by rw [getD_setN (show 5 ≠ 3 by decide), getD_setN (show 5 ≠ 4 by decide), getD_setN (show 5 ≠ 8 by decide), getD_setN (show 5 ≠ 9 by decide), getD_setN (show 5 ≠ 11 by decide), getD_setN (show 5 ≠ 13 by decide)]; exact hMb) ?_
                      show _ = Result.ok (Next.value (.pointer (some ⟨yb, 3, none⟩))) v
                      simp [execOp, go_sem, e9]
                    · cases ho
                      have l13 : listed.getD 13 false = false := by
                        cases hh : listed.getD 13 false
                        · rfl
                        · have y0 := hC 13 _ rfl hh ⟨6, .phase⟩ (by simp) rfl; rw [hl1] at y0; cases y0
                      have tt := hMb.tat
                      rw [l13, if_neg (show ¬ (false = true) by decide)] at tt
                      obtain ⟨⟨z0, z1, z2, z3⟩, -⟩ := four_blk tt
                      have e102 : b.tmps[102]? = some (.pointer (some ⟨yb, 3, none⟩)) := hF.up 5 102 rfl (hdeps ⟨5, .data⟩ (by simp) rfl)
                      refine QJ.quiet (x := x) hsz hC hi hF (Slots.of (by rfl)) rfl (wanted_none rfl) (show TwM wz.drew xb yb (yb + 1) 8 c (.slice xa c xc) (.slice ya c yc) ns ks0 [.string ⟨#[letB k]⟩] cK.cells ((listed.setIfInBounds 6 true).getD 3 false) ((listed.setIfInBounds 6 true).getD 4 false) ((listed.setIfInBounds 6 true).getD 8 false) ((listed.setIfInBounds 6 true).getD 9 false) ((listed.setIfInBounds 6 true).getD 11 false) ((listed.setIfInBounds 6 true).getD 13 false) x v by rw [getD_setN (show 6 ≠ 3 by decide), getD_setN (show 6 ≠ 4 by decide), getD_setN (show 6 ≠ 8 by decide), getD_setN (show 6 ≠ 9 by decide), getD_setN (show 6 ≠ 11 by decide), getD_setN (show 6 ≠ 13 by decide)]; exact hMb) ?_
                      show _ = Result.ok (Next.value (.slice ya c yc)) v
                      simp [execOp, go_sem, e102, z3]
                    · cases ho
                      obtain ⟨⟨o0, o1, o2, o3⟩, -⟩ := four_blk ((hMb.far kb HKQ1 HKQ2 HKQ3 HKQ4).trans HKQ.out)
                      have e17 := hF.old_is 17 (by rfl) rfl
                      refine QJ.quiet (x := x) hsz hC hi hF (Slots.of (by rfl)) rfl (wanted_none rfl) (show TwM wz.drew xb yb (yb + 1) 8 c (.slice xa c xc) (.slice ya c yc) ns ks0 [.string ⟨#[letB k]⟩] cK.cells ((listed.setIfInBounds 7 true).getD 3 false) ((listed.setIfInBounds 7 true).getD 4 false) ((listed.setIfInBounds 7 true).getD 8 false) ((listed.setIfInBounds 7 true).getD 9 false) ((listed.setIfInBounds 7 true).getD 11 false) ((listed.setIfInBounds 7 true).getD 13 false) x v by rw [getD_setN (show 7 ≠ 3 by decide), getD_setN (show 7 ≠ 4 by decide), getD_setN (show 7 ≠ 8 by decide), getD_setN (show 7 ≠ 9 by decide), getD_setN (show 7 ≠ 11 by decide), getD_setN (show 7 ≠ 13 by decide)]; exact hMb) ?_
                      show _ = Result.ok (Next.value (.agg #[.int .i64 cK.k, .string cK.n, .slice cK.an cK.ln cK.cn, .slice cK.ak cK.lk cK.ck])) v
                      simp [execOp, go_sem, e17, o0, o1, o2, o3]
                    · cases ho
                      have e104 : b.tmps[104]? = some (.agg #[.int .i64 cK.k, .string cK.n, .slice cK.an cK.ln cK.cn, .slice cK.ak cK.lk cK.ck]) := hF.up 7 104 rfl (hdeps ⟨7, .data⟩ (by simp) rfl)
                      have l9 : listed.getD 9 false = false := by
                        cases hh : listed.getD 9 false
                        · rfl
                        · have y0 := hC 9 _ rfl hh ⟨8, .data⟩ (by simp) rfl; rw [hl1] at y0; cases y0
                      have a := hMb
                      rw [hl1, l9] at a
                      refine QJ.make (v' := v.alloc (.cells #[.int .i64 cK.k, .string cK.n, .slice cK.an cK.ln cK.cn, .slice cK.ak cK.lk cK.ck] 31)) (x := x) (x' := ⟨x.tn, x.an, .slice (some ⟨v.heap.size, 0, none⟩) 1 1, x.ak⟩) hsz hC hi hF (Slots.of (by rfl)) rfl (wanted_none rfl) (fun q hq => match q, (show q ≠ 8 by rintro rfl; rw [hl1] at hq; cases hq) with | 0, _ => rfl | 1, _ => rfl | 2, _ => rfl | 3, _ => rfl | 4, _ => rfl | 5, _ => rfl | 6, _ => rfl | 7, _ => rfl | 8, h => absurd rfl h | 9, _ => rfl | 10, _ => rfl | 11, _ => rfl | 12, _ => rfl | 13, _ => rfl | _ + 14, _ => rfl) (show TwM wz.drew xb yb (yb + 1) 8 c (.slice xa c xc) (.slice ya c yc) ns ks0 [.string ⟨#[letB k]⟩] cK.cells ((listed.setIfInBounds 8 true).getD 3 false) ((listed.setIfInBounds 8 true).getD 4 false) ((listed.setIfInBounds 8 true).getD 8 false) ((listed.setIfInBounds 8 true).getD 9 false) ((listed.setIfInBounds 8 true).getD 11 false) ((listed.setIfInBounds 8 true).getD 13 false) ⟨x.tn, x.an, .slice (some ⟨v.heap.size, 0, none⟩) 1 1, x.ak⟩ (v.alloc (.cells #[.int .i64 cK.k, .string cK.n, .slice cK.an cK.ln cK.cn, .slice cK.ak cK.lk cK.ck] 31)) by rw [getD_setS (by rw [hsz]; decide), getD_setN (show 8 ≠ 3 by decide), getD_setN (show 8 ≠ 4 by decide), getD_setN (show 8 ≠ 9 by decide), getD_setN (show 8 ≠ 11 by decide), getD_setN (show 8 ≠ 13 by decide), l9]; exact a.layK) ?_
                      show _ = Result.ok (Next.value (.slice (some ⟨v.heap.size, 0, none⟩) 1 1)) _
                      simp [execOp, go_sem, e104]
                    · cases ho
                      have l8 := hdeps ⟨8, .data⟩ (by simp) rfl
                      have l6 := hdeps ⟨6, .data⟩ (by simp) rfl
                      have l13 : listed.getD 13 false = false := by
                        cases hh : listed.getD 13 false
                        · rfl
                        · have y0 := hC 13 _ rfl hh ⟨9, .data⟩ (by simp) rfl; rw [hl1] at y0; cases y0
                      have a := hMb
                      rw [l8, hl1, l13] at a
                      obtain ⟨g, t1, t2, t3, t4⟩ := a.sk.tmp rfl rfl
                      have hvz := a.size
                      have hdz : wz.drew.heap.size = wz.heap.size := rfl
                      refine wpOp_wpG rfl (wanted_none rfl) (Sh.wp_append_fresh (.tmp 103) (.tmp 105) 29 rfl (yb + 1) 31 ik (.agg #[.int .i64 0, .string ⟨#[]⟩, .slice none 0 0, .slice none 0 0]) 4 72 Try.underlying29 HIk.out HJk.out HKk.out HLk.out rfl (by decide) (.slice ya c yc) c ks0 (hF.eval (i := 6) rfl l6) (a.sk.row rfl) ⟨g, 0, none⟩ 1 1 cK.cells ((hF.eval (i := 8) rfl l8).trans t1) rfl (fun j u hu => by rw [addr_addZ]; simp only [World.cell?, t4]; simpa using hu) (by exact C4.one cK) (by unfold maxLen; omega) (by omega) (by omega) ?_)
                      intro y w3 hown hgr hfr
                      have hx : ∀ j, listed.getD j false = true → ((fun (x : Tw) (qq : Nat) => (match qq with | 0 => .pointer (some ⟨yb, 2, none⟩) | 1 => .slice xa c xc | 2 => .string ⟨#[letB k]⟩ | 3 => x.tn | 4 => x.an | 5 => .pointer (some ⟨yb, 3, none⟩) | 6 => .slice ya c yc | 7 => .agg #[.int .i64 cK.k, .string cK.n, .slice cK.an cK.ln cK.cn, .slice cK.ak cK.lk cK.ck] | 8 => x.tk | 9 => x.ak | 10 => .pointer (some ⟨yb, 2, none⟩) | 11 => undef | 12 => .pointer (some ⟨yb, 3, none⟩) | 13 => undef | _ => undef : Value)) ⟨x.tn, x.an, x.tk, y⟩) j = ((fun (x : Tw) (qq : Nat) => (match qq with | 0 => .pointer (some ⟨yb, 2, none⟩) | 1 => .slice xa c xc | 2 => .string ⟨#[letB k]⟩ | 3 => x.tn | 4 => x.an | 5 => .pointer (some ⟨yb, 3, none⟩) | 6 => .slice ya c yc | 7 => .agg #[.int .i64 cK.k, .string cK.n, .slice cK.an cK.ln cK.cn, .slice cK.ak cK.lk cK.ck] | 8 => x.tk | 9 => x.ak | 10 => .pointer (some ⟨yb, 2, none⟩) | 11 => undef | 12 => .pointer (some ⟨yb, 3, none⟩) | 13 => undef | _ => undef : Value)) x) j := (fun q hq => match q, (show q ≠ 9 by rintro rfl; rw [hl1] at hq; cases hq) with | 0, _ => rfl | 1, _ => rfl | 2, _ => rfl | 3, _ => rfl | 4, _ => rfl | 5, _ => rfl | 6, _ => rfl | 7, _ => rfl | 8, _ => rfl | 9, h => absurd rfl h | 10, _ => rfl | 11, _ => rfl | 12, _ => rfl | 13, _ => rfl | _ + 14, _ => rfl)
                      exact ⟨by simpa using hsz, hC.put hi, ⟨x.tn, x.an, x.tk, y⟩, (hF.congr hx).put (Slots.of (by rfl)) hsz rfl, (show TwM wz.drew xb yb (yb + 1) 8 c (.slice xa c xc) (.slice ya c yc) ns ks0 [.string ⟨#[letB k]⟩] cK.cells ((listed.setIfInBounds 9 true).getD 3 false) ((listed.setIfInBounds 9 true).getD 4 false) ((listed.setIfInBounds 9 true).getD 8 false) ((listed.setIfInBounds 9 true).getD 9 false) ((listed.setIfInBounds 9 true).getD 11 false) ((listed.setIfInBounds 9 true).getD 13 false) ⟨x.tn, x.an, x.tk, y⟩ w3 by rw [getD_setS (by rw [hsz]; decide), getD_setN (show 9 ≠ 3 by decide), getD_setN (show 9 ≠ 4 by decide), getD_setN (show 9 ≠ 8 by decide), getD_setN (show 9 ≠ 11 by decide), getD_setN (show 9 ≠ 13 by decide), l8, l13]; exact a.appK hown hgr hfr)⟩
                    · cases ho
                      have e9 := hF.old_is 9 (by rfl) rfl
                      refine QJ.quiet (x := x) hsz hC hi hF (Slots.of (by rfl)) rfl (wanted_none rfl) (show TwM wz.drew xb yb (yb + 1) 8 c (.slice xa c xc) (.slice ya c yc) ns ks0 [.string ⟨#[letB k]⟩] cK.cells ((listed.setIfInBounds 10 true).getD 3 false) ((listed.setIfInBounds 10 true).getD 4 false) ((listed.setIfInBounds 10 true).getD 8 false) ((listed.setIfInBounds 10 true).getD 9 false) ((listed.setIfInBounds 10 true).getD 11 false) ((listed.setIfInBounds 10 true).getD 13 false) x v by rw [getD_setN (show 10 ≠ 3 by decide), getD_setN (show 10 ≠ 4 by decide), getD_setN (show 10 ≠ 8 by decide), getD_setN (show 10 ≠ 9 by decide), getD_setN (show 10 ≠ 11 by decide), getD_setN (show 10 ≠ 13 by decide)]; exact hMb) ?_
                      show _ = Result.ok (Next.value (.pointer (some ⟨yb, 2, none⟩))) v
                      simp [execOp, go_sem, e9]
                    · cases ho
                      have l4 := hdeps ⟨4, .data⟩ (by simp) rfl
                      have l9 := hdeps ⟨9, .chain⟩ (by simp) rfl
                      have l13 : listed.getD 13 false = false := by
                        cases hh : listed.getD 13 false
                        · rfl
                        · have y0 := hC 13 _ rfl hh ⟨11, .chain⟩ (by simp) rfl; rw [hl1] at y0; cases y0
                      have a := hMb
                      rw [l4, l9, hl1, l13] at a
                      obtain ⟨va, vc, hv'⟩ := own_sliceZ (a.sn.done rfl)
                      have tt := a.tat
                      simp only [Bool.false_eq_true, if_false] at tt
                      obtain ⟨⟨z0, z1, z2, z3⟩, ⟨f0, f1, f2, f3⟩⟩ := four_blk tt
                      have e107 : b.tmps[107]? = some (.pointer (some ⟨yb, 2, none⟩)) := hF.up 10 107 rfl (hdeps ⟨10, .data⟩ (by simp) rfl)
                      have e101 : b.tmps[101]? = some (x.an) := hF.up 4 101 rfl (hdeps ⟨4, .data⟩ (by simp) rfl)
                      refine QJ.store (v' := v.setCell ⟨yb, 2, none⟩ x.an) (x := x) hsz hC hi hF (Slots.of (by rfl)) rfl rfl (wanted_none rfl) (show TwM wz.drew xb yb (yb + 1) 8 c (.slice xa c xc) (.slice ya c yc) ns ks0 [.string ⟨#[letB k]⟩] cK.cells ((listed.setIfInBounds 11 true).getD 3 false) ((listed.setIfInBounds 11 true).getD 4 false) ((listed.setIfInBounds 11 true).getD 8 false) ((listed.setIfInBounds 11 true).getD 9 false) ((listed.setIfInBounds 11 true).getD 11 false) ((listed.setIfInBounds 11 true).getD 13 false) x (v.setCell ⟨yb, 2, none⟩ x.an) by rw [getD_setS (by rw [hsz]; decide), getD_setN (show 11 ≠ 3 by decide), getD_setN (show 11 ≠ 4 by decide), getD_setN (show 11 ≠ 8 by decide), getD_setN (show 11 ≠ 9 by decide), getD_setN (show 11 ≠ 13 by decide), l4, l9, l13]; exact a.putN) ?_
                      rw [hv'] at *
                      simp [execOp, go_sem, e107, e101, z2, f2]
                    · cases ho
                      have e9 := hF.old_is 9 (by rfl) rfl
                      refine QJ.quiet (x := x) hsz hC hi hF (Slots.of (by rfl)) rfl (wanted_none rfl) (show TwM wz.drew xb yb (yb + 1) 8 c (.slice xa c xc) (.slice ya c yc) ns ks0 [.string ⟨#[letB k]⟩] cK.cells ((listed.setIfInBounds 12 true).getD 3 false) ((listed.setIfInBounds 12 true).getD 4 false) ((listed.setIfInBounds 12 true).getD 8 false) ((listed.setIfInBounds 12 true).getD 9 false) ((listed.setIfInBounds 12 true).getD 11 false) ((listed.setIfInBounds 12 true).getD 13 false) x v by rw [getD_setN (show 12 ≠ 3 by decide), getD_setN (show 12 ≠ 4 by decide), getD_setN (show 12 ≠ 8 by decide), getD_setN (show 12 ≠ 9 by decide), getD_setN (show 12 ≠ 11 by decide), getD_setN (show 12 ≠ 13 by decide)]; exact hMb) ?_
                      show _ = Result.ok (Next.value (.pointer (some ⟨yb, 3, none⟩))) v
                      simp [execOp, go_sem, e9]
                    · cases ho
                      have l4 := hdeps ⟨4, .phase⟩ (by simp) rfl
                      have l9 := hdeps ⟨9, .data⟩ (by simp) rfl
                      have l11 := hdeps ⟨11, .chain⟩ (by simp) rfl
                      have a := hMb
                      rw [l4, l9, l11, hl1] at a
                      obtain ⟨va, vc, hv'⟩ := own_sliceZ (a.sk.done rfl)
                      have tt := a.tat
                      simp only [Bool.false_eq_true, if_false, if_true] at tt
                      obtain ⟨⟨z0, z1, z2, z3⟩, ⟨f0, f1, f2, f3⟩⟩ := four_blk tt
                      have e108 : b.tmps[108]? = some (.pointer (some ⟨yb, 3, none⟩)) := hF.up 12 108 rfl (hdeps ⟨12, .data⟩ (by simp) rfl)
                      have e106 : b.tmps[106]? = some (x.ak) := hF.up 9 106 rfl (hdeps ⟨9, .data⟩ (by simp) rfl)
                      refine QJ.store (v' := v.setCell ⟨yb, 3, none⟩ x.ak) (x := x) hsz hC hi hF (Slots.of (by rfl)) rfl rfl (wanted_none rfl) (show TwM wz.drew xb yb (yb + 1) 8 c (.slice xa c xc) (.slice ya c yc) ns ks0 [.string ⟨#[letB k]⟩] cK.cells ((listed.setIfInBounds 13 true).getD 3 false) ((listed.setIfInBounds 13 true).getD 4 false) ((listed.setIfInBounds 13 true).getD 8 false) ((listed.setIfInBounds 13 true).getD 9 false) ((listed.setIfInBounds 13 true).getD 11 false) ((listed.setIfInBounds 13 true).getD 13 false) x (v.setCell ⟨yb, 3, none⟩ x.ak) by rw [getD_setS (by rw [hsz]; decide), getD_setN (show 13 ≠ 3 by decide), getD_setN (show 13 ≠ 4 by decide), getD_setN (show 13 ≠ 8 by decide), getD_setN (show 13 ≠ 9 by decide), getD_setN (show 13 ≠ 11 by decide), l4, l9, l11]; exact a.putK) ?_
                      rw [hv'] at *
                      simp [execOp, go_sem, e108, e106, z3, f3]
                  · intro listed b W5 hJ hr'
                    obtain ⟨hsz, hC, xx, hF, hM⟩ := hJ
                    have hall := all_upB2 (by rfl) hsz hr'
                    have hMb : TwM wz.drew xb yb (yb + 1) 8 c (.slice xa c xc) (.slice ya c yc) ns ks0 [.string ⟨#[letB k]⟩] cK.cells true true true true true true xx W5 := by
                      have h : TwM wz.drew xb yb (yb + 1) 8 c (.slice xa c xc) (.slice ya c yc) ns ks0 [.string ⟨#[letB k]⟩] cK.cells (listed.getD 3 false) (listed.getD 4 false) (listed.getD 8 false) (listed.getD 9 false) (listed.getD 11 false) (listed.getD 13 false) xx W5 := hM
                      rw [hall 3 (by decide), hall 4 (by decide), hall 8 (by decide), hall 9 (by decide), hall 11 (by decide), hall 13 (by decide)] at h
                      exact h
                    have hd := hMb.over
                    have hfr := hMb.fresh
                    have hb : b = putAll _ _ _ 14 := hF.done (Slots.of (by rfl)) hall
                    subst hb
                    simp only [putAll]
                    simp [dstOf, Act.put]
                    have HD := Lib.hid hd; have HFR := Lib.hid hfr
                    clear hM hF hC hall hr' hsz hMb hd hfr hN0 hK0 hA0 hT0 hb0 hb1
                    have hs2 := UnS.addY (B0 := xb) (k := k) (HSZ.out.below (Below.refl _ _).drew) (HVZ.out.keep (fun _ h => h) (fun _ _ => rfl)) (by have hd := HD.out; rw [← hns, ← hks, ← hc] at hd; exact hd) (by have hf := HFR.out; rw [← hc] at hf; exact hf)
                    have HS3 := Lib.hid hs2
                    have HB3 := Lib.hid (HBZ.out.drew.trans HD.out.below)
                    clear hs2 hns hks hc HD HFR HKQ HKQ1 HKQ2 HKQ3 HKQ4
                    go_wp2
                    go_meet
                    case rel => exact ⟨_, _, _, by rw [widL_succ g, ← HGK1.out]; exact HS3.out, HB3.out⟩
            case rest =>
              clear HSQ HBQ hxq
              obtain ⟨yn2, yk2, us2, hs3, hb3⟩ := hcut
              have HSQ := Lib.hid hs3; have HBQ := Lib.hid hb3
              clear hs3 hb3
              have ha := allU_succ f g k
              have HA := Lib.hid ha
              clear ha
              cases hA0 : allU f g k <;> cases fk <;> cases gk <;> (
                go_wp2
                go_roundw
                case rel => exact ⟨k + 1, _, _, _, _, _, by rw [HA.out, hA0, ← HFK1.out, ← HGK1.out]; rfl, by go_num, by omega, HSQ.out, HBQ.out⟩
                case measure => simp [intOf]; omega)
    · obtain rfl : k = 8 := by omega
      have HS := Lib.hid h.s; have HBL := Lib.hid h.below
      clear h
      obtain ⟨na, nc, ka, kc, ma, mc, ja, jc, rfl, rfl, rfl, rfl, hx, hy⟩ := HS.out.vals
      obtain ⟨⟨x0, x1, x2, x3⟩, -⟩ := four_blk HS.out.xat
      have hyat := HS.out.yat
      have hyl := (Array.getElem?_eq_some_iff.1 hyat).1
      obtain ⟨⟨y0, y1, y2, y3⟩, -⟩ := four_blk hyat
      have hl1 := widU_len f 8
      have hl2 := widU_len g 8
      obtain ⟨c1, hc1⟩ : ∃ c1, (widL f 8).length = c1 := ⟨_, rfl⟩
      obtain ⟨c2, hc2⟩ : ∃ c2, (widL g 8).length = c2 := ⟨_, rfl⟩
      rw [hc1] at x2 x3 hl1 hx
      rw [hc2] at y2 y3 hl2 hy hyat
      have hall : allU f g 8 = (((widL f 8).map tagN).all fun n => decide (n ∈ (widL g 8).map tagN)) := (uni_all f g).symm
      rw [hall]
      clear hall
      by_cases h1 : c1 = 0
      · subst h1
        clear hx hy hyat hc1 hc2 y0 y1 y2 y3
        go_wp2
        go_ret
        exact ⟨rfl, HALLW.out⟩
      · have t1 : ((c1 : Int) == 0) = false := by simp; omega
        by_cases h2 : c2 = 0
        · subst h2
          clear hx hy hyat hc1 hc2
          go_wp2
          go_ret
          exact ⟨rfl, HALLW.out⟩
        · have t2 : ((c2 : Int) == 0) = false := by simp; omega
          have hA : widL f 8 ≠ [] := fun e => h1 (by rw [← hc1, e]; rfl)
          have hD : widL g 8 ≠ [] := fun e => h2 (by rw [← hc2, e]; rfl)
          have u1 := uni_z f hA (z := zI) (by simp)
          have u2 := uni_z g hD (z := z) (by rw [HZ.out]; cases wide <;> simp)
          obtain ⟨id, T3, hU⟩ := uni_is hA hD wide
          rw [← HZ.out] at hU
          have had := uni_add u2 hU
          have hle := hU.le
          have CN := new_at (w := wr) ⟨uniX (widL f 8) zI, [], []⟩ (c := ⟨8, ⟨#[]⟩, na, c1, nc, ka, c1, kc⟩) 0 0 (SzV.build hx (NmsV.nil none) (SgsV.nil none)) rfl (by simp [fitS, u1.fit]) ⟨fun i h => (by cases h), ⟨u1.fit, u1.short⟩, fun g h => by cases h⟩ ⟨by simp, by simp⟩ (uni_new hA u1)
          have HCN := Lib.hid CN; have HAD := Lib.hid had; have HU := Lib.hid hU; have HLE := Lib.hid hle; have HU2 := Lib.hid u2; have HY := Lib.hid hy; have HYA := Lib.hid hyat
          clear CN had hU hle u1 u2 hx hy hyat hA hD hc1 hc2 HS HBL h1 h2
          generalize (((widL f 8).map tagN).all fun n => decide (n ∈ (widL g 8).map tagN)) = al at *
          generalize T1U (widL f 8) = T1 at *
          go_upto_region 30 with (go_at_call 9; (refine HCN.out.mono ?_); rintro e w2 ⟨tb, rb, nb, mb, sb, ty, nu, vs, rfl, s2, x2'⟩; have hz2 := x2'.size; have HT2 := Lib.hid s2; have HX2 := Lib.hid x2'; clear s2 x2')
          obtain ⟨⟨v0, v1, v2, v3⟩, -⟩ := four_blk ((HX2.out.block yb hyl).trans HYA.out)
          have CA := HT2.out.adds HX2.out.size HU2.out.fit HU2.out.short (HY.out.keep (S' := Any wr) (fun _ h => h) (fun q hq => HX2.out.block q hq)) (fun q hq => ⟨Nat.lt_of_lt_of_le hq HX2.out.size, HT2.out.far hq⟩) HAD.out
          have HCA := Lib.hid CA
          clear CA y0 y1 y2 y3 x0 x1 x2 x3
          go_upto_region 31 with (go_at_call 11; (refine HCA.out.mono ?_); rintro e w3 ⟨rb3, nb3, ty3, nu3, rfl, s3, x3, -⟩; have hz3 := x3.size; have HT3 := Lib.hid s3; have HX3 := Lib.hid (HALLW.out.trans ((HX2.out.trans x3).mono HALLW.out.size)); clear s3 x3)
          clear v0 v1 v2 v3
          go_upto_region 32 with (first
            | (go_at_call 16; (refine HT3.out.main.mono ?_); rintro e w4 ⟨rfl, x4⟩; have HT4 := Lib.hid (HT3.out.below x4); have HX4 := Lib.hid (HX3.out.trans (x4.mono HX3.out.size)); clear x4)
            | (go_at_call 13; (refine (HT4.out.le HU.out.op HU.out.ml HU.out.il).mono ?_); rintro e w5 ⟨rfl, x5⟩; rw [show (leL T3 (openK T3 [] 13) _ _).1 = _ from HLE.out]; have HX5 := Lib.hid (HX4.out.trans (x5.mono HX4.out.size)); clear x5))
          cases al <;> (
            go_wp2
            go_ret
            exact ⟨rfl, HX5.out⟩)
end Sp
end Go.Proofs.Yteooafgdmpbjeab
