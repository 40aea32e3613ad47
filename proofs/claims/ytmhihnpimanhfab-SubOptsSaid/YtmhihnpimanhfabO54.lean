/- SubOpts' walk. Written by gen_lopts.py. -/
import Derived.Test.YtmhihnpimanhfabO53
import Derived.Test.YtmhihnpimanhfabO24
import Derived.ProofKit
import Derived.OpenShut
import Derived.KernelRfl
namespace Go.Proofs.Ytmhihnpimanhfab
open Go.RowKit
namespace Sp
open Sc
/-- The six types lie in a row. -/
structure SixV (W : World) (g : Nat) (us : List C4) : Prop where
  len : us.length = 6
  row : RowV W (Any W) (some ⟨g, 0, none⟩) 4 (us.map C4.cells)
  val : ∀ i (_ : i < 6) (h' : i < us.length), TzV W (Any W) (optsT i) us[i]
theorem SixV.at {W : World} {g : Nat} {us : List C4} (h : SixV W g us) (i : Nat) (hi : i < us.length) (w : World) (hb : Below W.heap.size W w) :
    w.cell? ⟨g, i * 4, none⟩ = some (.int .i64 us[i].k) ∧ w.cell? ⟨g, i * 4 + 1, none⟩ = some (.string us[i].n) ∧ w.cell? ⟨g, i * 4 + 2, none⟩ = some (.slice us[i].an us[i].ln us[i].cn) ∧ w.cell? ⟨g, i * 4 + 3, none⟩ = some (.slice us[i].ak us[i].lk us[i].ck) := by
  obtain ⟨g', o, e, hg, hc⟩ := row_at h.row (fun _ h => h) i (by simpa using hi)
  cases e
  have a0 := hc w hb 0 _ (by simp [C4.cells]; rfl)
  have a1 := hc w hb 1 _ (by simp [C4.cells]; rfl)
  have a2 := hc w hb 2 _ (by simp [C4.cells]; rfl)
  have a3 := hc w hb 3 _ (by simp [C4.cells]; rfl)
  simp only [Nat.zero_add, Nat.add_zero] at a0 a1 a2 a3
  exact ⟨a0, a1, a2, a3⟩
set_option maxRecDepth 100000 in
set_option maxHeartbeats 30000000 in
theorem SubOpts_any (x y : Int) (w : World) (h1 : -9223372036854775808 ≤ x) (h2 : x ≤ 9223372036854775807) (h3 : -9223372036854775808 ≤ y) (h4 : y ≤ 9223372036854775807) :
    Calls Try.prog 3 #[.int .i64 x, .int .i64 y] w fun e w' => e = .returned (.bool true) ∧ Below w.heap.size w w' := by
  obtain ⟨a, hr, ha⟩ : ∃ r : Nat, x % 6 = r ∧ r < 6 := ⟨(x % 6).toNat, by omega, by omega⟩
  obtain ⟨b, hq, hb⟩ : ∃ q : Nat, y % 6 = q ∧ q < 6 := ⟨(y % 6).toNat, by omega, by omega⟩
  obtain ⟨ix, iy, ox, oy, T1, T2, T3, T4, hof⟩ := opts_is ha hb
  have HR := Lib.hid hr; have HQ := Lib.hid hq; have HOF := Lib.hid hof; clear hr hq hof
  go_enter Try.func3, Try.ntmps3
  go_upto_region 5 with (go_at_call 6; (with_reducible refine (known6_any _).mono ?_); rintro e w1 ⟨rfl, x1⟩; have HX1 := Lib.hid x1; clear x1)
  obtain ⟨W2, hW2⟩ : ∃ W2, W2 = (((((((w1.alloc (.cells #[.int .i64 2, .string ⟨#[]⟩, .slice none 0 0, .slice none 0 0] 26)).alloc (.cells #[.string ⟨#[97]⟩] 9)).alloc (.cells #[.int .i64 2, .string ⟨#[]⟩, .slice none 0 0, .slice none 0 0] 26)).alloc (.cells #[.string ⟨#[97]⟩, .string ⟨#[98]⟩] 9)).alloc (.cells #[.int .i64 2, .string ⟨#[]⟩, .slice none 0 0, .slice none 0 0, .int .i64 2, .string ⟨#[]⟩, .slice none 0 0, .slice none 0 0] 26)).alloc (.cells #[.int .i64 2, .string ⟨#[]⟩, .slice none 0 0, .slice none 0 0] 26)).alloc (.cells #[.int .i64 2, .string ⟨#[]⟩, .slice none 0 0, .slice none 0 0, .int .i64 1, .string ⟨#[]⟩, .slice none 0 0, .slice none 0 0, .int .i64 7, .string ⟨#[]⟩, .slice (some ⟨w1.heap.size + 1, 0, none⟩) 1 1, .slice (some ⟨w1.heap.size + 1 + 1, 0, none⟩) 1 1, .int .i64 7, .string ⟨#[]⟩, .slice none 0 0, .slice none 0 0, .int .i64 7, .string ⟨#[]⟩, .slice (some ⟨w1.heap.size + 1 + 1 + 1, 0, none⟩) 2 2, .slice (some ⟨w1.heap.size + 1 + 1 + 1 + 1, 0, none⟩) 2 2, .int .i64 4, .string ⟨#[]⟩, .slice none 0 0, .slice (some ⟨w1.heap.size + 1 + 1 + 1 + 1 + 1, 0, none⟩) 1 1] 26)) := ⟨_, rfl⟩
  have q := made (l := [_, _, _, _, _, _, _]) hW2
  have hz2 : W2.heap.size = w1.heap.size + 7 := by rw [hW2]; simp
  have hb2 : Below w1.heap.size w1 W2 := by rw [hW2]; repeat first | exact Below.refl _ _ | refine Below.alloc ?_ (by simp <;> omega) _
  obtain ⟨us, hus⟩ : ∃ us : List C4, us = [⟨2, ⟨#[]⟩, none, 0, 0, none, 0, 0⟩, ⟨1, ⟨#[]⟩, none, 0, 0, none, 0, 0⟩, ⟨7, ⟨#[]⟩, some ⟨w1.heap.size + 1, 0, none⟩, 1, 1, some ⟨w1.heap.size + 1 + 1, 0, none⟩, 1, 1⟩, ⟨7, ⟨#[]⟩, none, 0, 0, none, 0, 0⟩, ⟨7, ⟨#[]⟩, some ⟨w1.heap.size + 1 + 1 + 1, 0, none⟩, 2, 2, some ⟨w1.heap.size + 1 + 1 + 1 + 1, 0, none⟩, 2, 2⟩, ⟨4, ⟨#[]⟩, none, 0, 0, some ⟨w1.heap.size + 1 + 1 + 1 + 1 + 1, 0, none⟩, 1, 1⟩] := ⟨_, rfl⟩
  have h6 : SixV W2 (w1.heap.size + 1 + 1 + 1 + 1 + 1 + 1) us := by
    subst hus
    refine ⟨rfl, RowV.blk (q 6 _ rfl) rfl (cells4_len _), fun i h h' => ?_⟩
    match i, h with
    | 0, _ => exact TzV.leaf _ _ 2 []
    | 1, _ => exact TzV.leaf _ _ 1 []
    | 2, _ => exact TzV.fld 7 [97] (c := ⟨2, ⟨#[]⟩, none, 0, 0, none, 0, 0⟩) (q 1 _ rfl) (q 2 _ rfl) (TzV.leaf _ _ 2 [])
    | 3, _ => exact TzV.leaf _ _ 7 []
    | 4, _ => exact TzV.two 7 [97] [98] (c := ⟨2, ⟨#[]⟩, none, 0, 0, none, 0, 0⟩) (d := ⟨2, ⟨#[]⟩, none, 0, 0, none, 0, 0⟩) (q 3 _ rfl) (q 4 _ rfl) (TzV.leaf _ _ 2 []) (TzV.leaf _ _ 2 [])
    | 5, _ => exact TzV.kid (c := ⟨2, ⟨#[]⟩, none, 0, 0, none, 0, 0⟩) 4 (q 5 _ rfl) (TzV.leaf _ _ 2 [])
  obtain ⟨⟨o0, o1, o2, o3⟩, -⟩ := four_blk (show W2.heap[w1.heap.size]? = some (.cells #[.int .i64 2, .string ⟨#[]⟩, .slice none 0 0, .slice none 0 0] 26 (0, 0)) from q 0 _ rfl)
  have hlu := h6.len
  have hau : a < us.length := by omega
  have hbu : b < us.length := by omega
  have HW2 := Lib.hid hW2; have HB2 := Lib.hid (HX1.out.trans (hb2.mono HX1.out.size)); have H6 := Lib.hid h6
  clear hW2 hb2 h6 q hus hlu
  rw [← HW2.out]
  clear HW2
  have haz : (a : Int) < 6 := by omega
  have hbz : (b : Int) < 6 := by omega
  go_upto_region 6 with (first | (go_at_call 7; (with_reducible refine (within6_is _ _ _ _ (by omega) (by omega) h1 h2 HR.out).mono ?_); rintro e w2 ⟨rfl, rfl⟩) | (go_at_call 7; (with_reducible refine (within6_is _ _ _ _ (by omega) (by omega) h3 h4 HQ.out).mono ?_); rintro e w2 ⟨rfl, rfl⟩))
  go_upto_region 7 with (go_at_call 8; (refine (newI_any _).mono ?_); rintro e w3 ⟨tb, rb, nb, mb, sb, ty, nu, vs, rfl, s3, x3⟩; have HS3 := Lib.hid s3; have hz3 := x3.size; have HL3 := Lib.hid x3; have HX3 := Lib.hid (HB2.out.trans (x3.mono HB2.out.size)); clear s3 x3)
  clear o0 o1 o2 o3
  obtain ⟨r0, r1, r2, r3⟩ := H6.out.at a hau w3 HL3.out
  have CA := HS3.out.adds HL3.out.size (optsT_fit ha).1 (optsT_fit ha).2 ((H6.out.val a ha hau).keep (S' := Any W2) (fun _ h => h) (fun g hg => HL3.out.block g hg)) (fun g hg => ⟨Nat.lt_of_lt_of_le hg HL3.out.size, HS3.out.far hg⟩) HOF.out.a1
  have HCA := Lib.hid CA
  clear CA
  obtain ⟨ca, hca⟩ : ∃ c, us[a] = c := ⟨_, rfl⟩
  rw [hca] at r0 r1 r2 r3 HCA
  go_upto_region 8 with (go_at_call 9; (refine HCA.out.mono ?_); rintro e w4 ⟨rb4, nb4, ty4, nu4, rfl, s4, x4, -⟩; have HS4 := Lib.hid s4; have hz4 := x4.size; have HL4 := Lib.hid (HL3.out.trans x4); have HX4 := Lib.hid (HB2.out.trans ((HL3.out.trans x4).mono HB2.out.size)); clear s4 x4)
  clear r0 r1 r2 r3 hca HCA
  obtain ⟨r0, r1, r2, r3⟩ := H6.out.at b hbu w4 HL4.out
  have CA := HS4.out.adds HL4.out.size (optsT_fit hb).1 (optsT_fit hb).2 ((H6.out.val b hb hbu).keep (S' := Any W2) (fun _ h => h) (fun g hg => HL4.out.block g hg)) (fun g hg => ⟨Nat.lt_of_lt_of_le hg HL4.out.size, HS4.out.far hg⟩) HOF.out.a2
  have HCA := Lib.hid CA
  clear CA
  obtain ⟨cb, hcb⟩ : ∃ c, us[b] = c := ⟨_, rfl⟩
  rw [hcb] at r0 r1 r2 r3 HCA
  go_upto_region 9 with (go_at_call 9; (refine HCA.out.mono ?_); rintro e w5 ⟨rb5, nb5, ty5, nu5, rfl, s5, x5, -⟩; have HS5 := Lib.hid s5; have hz5 := x5.size; have HL5 := Lib.hid (HL4.out.trans x5); have HX5 := Lib.hid (HB2.out.trans ((HL4.out.trans x5).mono HB2.out.size)); clear s5 x5)
  clear r0 r1 r2 r3 hcb HCA
  go_upto_region 10 with (go_at_call 10; (refine (HS5.out.opts HL5.out.size HOF.out.x2 HOF.out.a3).mono ?_); rintro e w6 ⟨rb6, nb6, ty6, nu6, rfl, s6, x6, -⟩; have HS6 := Lib.hid s6; have hz6 := x6.size; have HL6 := Lib.hid (HL5.out.trans x6); have HX6 := Lib.hid (HB2.out.trans ((HL5.out.trans x6).mono HB2.out.size)); clear s6 x6)
  go_upto_region 11 with (go_at_call 10; (refine (HS6.out.opts HL6.out.size HOF.out.y3 HOF.out.a4).mono ?_); rintro e w7 ⟨rb7, nb7, ty7, nu7, rfl, s7, x7, -⟩; have HS7 := Lib.hid s7; have HX7 := Lib.hid (HB2.out.trans ((HL6.out.trans x7).mono HB2.out.size)); clear s7 x7)
  go_upto_region 12 with (go_at_call 11; (refine (HS7.out.le HOF.out.op HOF.out.xl HOF.out.yl).mono ?_); rintro e w8 ⟨rfl, x8⟩; rw [show (leL T4 (openK T4 [] 13) _ _).1 = _ from HOF.out.is]; have HS8 := Lib.hid (HS7.out.below x8); have HX8 := Lib.hid (HX7.out.trans (x8.mono HX7.out.size)); clear x8)
  go_upto_region 13 with (go_at_call 11; (refine (HS8.out.le HOF.out.op HOF.out.xl HOF.out.oyl).mono ?_); rintro e w9 ⟨rfl, x9⟩; rw [show (leL T4 (openK T4 [] 13) _ _).1 = _ from HOF.out.p]; have HS9 := Lib.hid (HS8.out.below x9); have HX9 := Lib.hid (HX8.out.trans (x9.mono HX8.out.size)); clear x9)
  go_upto_region 14 with (go_at_call 11; (refine (HS9.out.le HOF.out.op HOF.out.oxl HOF.out.oyl).mono ?_); rintro e w10 ⟨rfl, x10⟩; rw [show (leL T4 (openK T4 [] 13) _ _).1 = _ from HOF.out.q]; have HS10 := Lib.hid (HS9.out.below x10); have HX10 := Lib.hid (HX9.out.trans (x10.mono HX9.out.size)); clear x10)
  go_upto_region 15 with (go_at_call 11; (refine (HS10.out.le HOF.out.op HOF.out.oxl HOF.out.yl).mono ?_); rintro e w11 ⟨rfl, x11⟩; rw [show (leL T4 (openK T4 [] 13) _ _).1 = _ from HOF.out.r]; have HS11 := Lib.hid (HS10.out.below x11); have HX11 := Lib.hid (HX10.out.trans (x11.mono HX10.out.size)); clear x11)
  clear HR HQ HOF H6 HS3 HS4 HS5 HS6 HS7 HS8 HS9 HS10 HS11 hau hbu haz hbz
  rcases (by omega : a = 0 ∨ a = 1 ∨ a = 2 ∨ a = 3 ∨ a = 4 ∨ a = 5) with rfl | rfl | rfl | rfl | rfl | rfl <;> rcases (by omega : b = 0 ∨ b = 1 ∨ b = 2 ∨ b = 3 ∨ b = 4 ∨ b = 5) with rfl | rfl | rfl | rfl | rfl | rfl <;> (
    simp only [optsE] 
    go_wp2
    go_ret
    exact ⟨rfl, HX11.out⟩)
end Sp
end Go.Proofs.Ytmhihnpimanhfab
namespace Go.Proofs.Ytmhihnpimanhfab
namespace Sp
theorem own : ownKnob Try.prog.godebug = none := by kernel_rfl
theorem laidOut : laidOutB Try.prog = true := by kernel_rfl
end Sp
end Go.Proofs.Ytmhihnpimanhfab
