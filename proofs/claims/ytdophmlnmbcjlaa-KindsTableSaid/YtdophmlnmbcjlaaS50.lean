/- What the statements of chapter 4 share. -/
import Derived.Test.YtdophmlnmbcjlaaS21
import Derived.ProofKit
import Derived.OpenShut
import Derived.KernelRfl
import Derived.Test.YtdophmlnmbcjlaaS49
import Derived.HandedShaped
import Derived.ShutString
import Derived.ChangeOld
import Derived.Test.YtdophmlnmbcjlaaS48
namespace Go.Proofs.Ytdophmlnmbcjlaa
namespace Sp
theorem own : ownKnob Try.prog.godebug = none := by kernel_rfl
theorem laidOut : laidOutB Try.prog = true := by kernel_rfl
end Sp
end Go.Proofs.Ytdophmlnmbcjlaa
namespace Go.Proofs.Ytdophmlnmbcjlaa.kindsTable
open Go.ChangeShapes Go.WideShapes Go.ChangeAt Go.RowKit
open Go.ChangeMaps (open_string shut_string)
open Go.Proofs.Ytdophmlnmbcjlaa.Sp (own laidOut)
set_option maxRecDepth 100000 in
theorem lifted (os : Os) (started : os.Started) (H : Type) (enc : TypeId × Value → H) :
    ReturnsInHanded {} Try.checked os 8 .any (Rows.kindsTableSpec.pre6 enc Try.prog Try.f8 Rows.kindsTableRow.domain false)
      (Rows.kindsTableSpec.post enc Try.prog Try.f8 false true false false) := by
  refine returnsInHanded_of_change_shaped (C := Try.checked) own started (by kernel_rfl) Try.func8
    (ChangeSpec.witness6 (enc := enc) (C := Try.checked) false ⟨#[], #[.int .i64 0, .int .i64 0], []⟩ 8 (by kernel_rfl) (by kernel_rfl) (by kernel_rfl) (by kernel_rfl)) ?_
  intro W base args ds gs before hval0 hW _ _ hsh _
  have hval : ∀ (j : Nat) t v, Try.f8.params[j]? = some t → args[j]? = some v → Value.okWide Try.prog W .any base t v := hval0
  have hW' := hW
  obtain ⟨p, q, hA0, hV, rfl, hfz, hnd⟩ := hW
  have hA : DataW.TrodAll enc Try.prog W 0 (fun _ => true) true Try.f8.params.toList args.toList ds p := hA0
  rw [Try.params8] at hA hval
  obtain ⟨v0, vs0, d0, ds0, p0, q0, hargs, rfl, rfl, h0, r0⟩ := trodAll_cons hA
  obtain ⟨v1, vs1, d1, ds1, p1, q1, rfl, rfl, rfl, h1, r1⟩ := trodAll_cons r0
  obtain ⟨rfl, rfl, rfl⟩ := trodAll_nil r1
  obtain rfl : args = #[v0, v1] := by cases args; simp_all
  obtain ⟨rfl, rfl⟩ := trodVars_none hV
  obtain ⟨x0, rfl, rfl, rfl, wx0⟩ := open_int Try.underlying3 (hval 0 3 v0 rfl rfl) h0
  obtain ⟨x1, rfl, rfl, rfl, wx1⟩ := open_int Try.underlying3 (hval 1 3 v1 rfl rfl) h1
  clear hA0 hval0
  refine (Sp.KindsTable_any x0 x1 W (bounds_i64 wx0).1 (bounds_i64 wx0).2 (bounds_i64 wx1).1 (bounds_i64 wx1).2).mono fun e W' ⟨he, bel⟩ => ?_
  subst he
  exact ⟨_, rfl, _, _, _, [], _, [], hW', trodAll_mk1 (shut_bool Try.underlying4 _), (trodAll_cons_mk (shut_int Try.underlying3 wx0) (trodAll_cons_mk (shut_int Try.underlying3 wx1) trodAll_mk0)), rfl, bel.frame _, fun h => by cases h⟩
theorem said : Rows.KindsTableSaid :=
  OpenClaim.holds_of_wide 8 Try.f8 rfl rfl rfl rfl rfl rfl rfl ⟨rfl, rfl, rfl, rfl, rfl⟩ rfl rfl rfl rfl rfl (by kernel_rfl) Try.func8 (by kernel_rfl)
    (of_decide_eq_true (by kernel_rfl)) (by unfold Func.isWrapper; first | (rw [if_pos (by decide +kernel)]; kernel_rfl) | (rw [if_neg (by decide +kernel)]; exact ⟨rfl, rfl⟩))
    (fun os started H enc _ => lifted os started H enc)
end Go.Proofs.Ytdophmlnmbcjlaa.kindsTable
namespace Go.Proofs.Ytdophmlnmbcjlaa
open Go.RowKit
namespace Sp
open Sc
set_option maxRecDepth 100000
/-- The test of KindsNamed, in pieces. -/
structure NamJ (k f : Nat) (tab : Tab) (i : Nat) (T2 : List Kz) (r1 r2 : Nat) (T3 : List Kz) (T4 : List Kz) : Prop where
  fit : fitS (ns8 k) = true
  bi : builtinB (nn8.getD f []) = true
  ad : addK (hasZ tab.N) tab.T (nl8.getD k zI) = (i, 0, T2)
  o2 : OpL T2 tab.N
  o3 : OpL T3 tab.N
  m2 : tab.m < T2.length
  i3 : i < T3.length
  of1 : ofJ T2 tab.N (nn8.getD f []) [tab.m] = (r1, r2, T3)
  of2 : ofJ T3 tab.N (nn8.getD f []) [i] = (r1, r2, T4)
theorem namJ_is {k f : Nat} (hk : k < 6) (hf : f < 6) : ∃ tab i T2 r1 r2 T3 T4, newK (ns8 k) = (0, tab) ∧ NamJ k f tab i T2 r1 r2 T3 T4 := by
  have h := namJB_at hk hf
  unfold namJB at h
  simp only [Bool.and_eq_true, decide_eq_true_eq] at h
  obtain ⟨⟨⟨⟨⟨⟨⟨⟨⟨⟨h1, h2⟩, h3⟩, h4⟩, h5⟩, h6⟩, h7⟩, h8⟩, h9⟩, ha⟩, hb⟩ := h
  generalize hA : addK (hasZ (nt8 k).N) (nt8 k).T (nl8.getD k zI) = a at *
  generalize hR : ofJ a.2.2 (nt8 k).N (nn8.getD f []) [(nt8 k).m] = r at *
  generalize hQ : ofJ r.2.2 (nt8 k).N (nn8.getD f []) [a.1] = q at *
  obtain ⟨a1, a2, a3⟩ := a
  obtain ⟨r1, r2, r3⟩ := r
  obtain ⟨q1, q2, q3⟩ := q
  dsimp only at *
  subst ha hb h5
  exact ⟨nt8 k, a1, a3, r1, r2, r3, q3, Prod.ext h1 rfl, h9, h8, hA, opB_is h6, opB_is h7, h2, h4, hR, hQ⟩
theorem nl8_fit {k : Nat} (hk : k < 6) : fitZ (nl8.getD k zI) = true ∧ shortZ (nl8.getD k zI) = true := by
  match k, hk with
  | 0, _ => exact ⟨by kernel_rfl, by kernel_rfl⟩
  | 1, _ => exact ⟨by kernel_rfl, by kernel_rfl⟩
  | 2, _ => exact ⟨by kernel_rfl, by kernel_rfl⟩
  | 3, _ => exact ⟨by kernel_rfl, by kernel_rfl⟩
  | 4, _ => exact ⟨by kernel_rfl, by kernel_rfl⟩
  | 5, _ => exact ⟨by kernel_rfl, by kernel_rfl⟩
theorem ns8_short {k : Nat} (hk : k < 6) : ShortS (ns8 k) := by
  refine ⟨fun i h => ?_, ⟨rfl, rfl⟩, fun g h => by cases h⟩
  match i, h with
  | 0, _ => exact ⟨(by show 1 ≤ 1000; omega), rfl, rfl⟩
  | 1, _ => exact ⟨(by show 1 ≤ 1000; omega), nl8_fit hk⟩
set_option maxHeartbeats 30000000 in
theorem KindsNamed_any (x y : Int) (w : World) (h1 : -9223372036854775808 ≤ x) (h2 : x ≤ 9223372036854775807) (h3 : -9223372036854775808 ≤ y) (h4 : y ≤ 9223372036854775807) :
    Calls Try.prog 7 #[.int .i64 x, .int .i64 y] w fun e w' => e = .returned (.bool true) ∧ Below w.heap.size w w' := by
  obtain ⟨k, hr, hk⟩ : ∃ r : Nat, x % 6 = r ∧ r < 6 := ⟨(x % 6).toNat, by omega, by omega⟩
  obtain ⟨f, hq, hf⟩ : ∃ q : Nat, y % 6 = q ∧ q < 6 := ⟨(y % 6).toNat, by omega, by omega⟩
  obtain ⟨⟨T, N, G, m⟩, i, T2, r1, r2, T3, T4, hn, hB⟩ := namJ_is hk hf
  have HR := Lib.hid hr; have HQ := Lib.hid hq; have HN := Lib.hid hn; have HB := Lib.hid hB
  clear hr hq hn hB
  go_enter Try.func7, Try.ntmps7
  go_upto_region 4 with (go_at_call 9; (with_reducible refine (known8_any _).mono ?_); rintro e w1 ⟨rfl, x1⟩; have HX1 := Lib.hid x1; clear x1)
  obtain ⟨W2, hW2⟩ : ∃ W2, W2 = ((((w1.alloc (.cells #[.int .i64 2, .string ⟨#[]⟩, .slice none 0 0, .slice none 0 0] 30)).alloc (.cells #[.int .i64 2, .string ⟨#[]⟩, .slice none 0 0, .slice none 0 0] 30)).alloc (.cells #[.int .i64 2, .string ⟨#[]⟩, .slice none 0 0, .slice none 0 0] 30)).alloc (.cells #[.int .i64 2, .string ⟨#[]⟩, .slice none 0 0, .slice none 0 0, .int .i64 3, .string ⟨#[]⟩, .slice none 0 0, .slice none 0 0, .int .i64 1, .string ⟨#[]⟩, .slice none 0 0, .slice none 0 0, .int .i64 4, .string ⟨#[]⟩, .slice none 0 0, .slice (some ⟨w1.heap.size, 0, none⟩) 1 1, .int .i64 5, .string ⟨#[]⟩, .slice none 0 0, .slice (some ⟨w1.heap.size + 1, 0, none⟩) 1 1, .int .i64 6, .string ⟨#[]⟩, .slice none 0 0, .slice (some ⟨w1.heap.size + 1 + 1, 0, none⟩) 1 1] 30)) := ⟨_, rfl⟩
  have q := made (l := [_, _, _, _]) hW2
  have hz2 : w1.heap.size + 4 ≤ W2.heap.size := by rw [hW2]; simp
  have hb2 : Below w1.heap.size w1 W2 := by rw [hW2]; repeat first | exact Below.refl _ _ | refine Below.alloc ?_ (by simp <;> omega) _
  obtain ⟨us, hus⟩ : ∃ us : List C4, us = [⟨2, ⟨#[]⟩, none, 0, 0, none, 0, 0⟩, ⟨3, ⟨#[]⟩, none, 0, 0, none, 0, 0⟩, ⟨1, ⟨#[]⟩, none, 0, 0, none, 0, 0⟩, ⟨4, ⟨#[]⟩, none, 0, 0, some ⟨w1.heap.size, 0, none⟩, 1, 1⟩, ⟨5, ⟨#[]⟩, none, 0, 0, some ⟨w1.heap.size + 1, 0, none⟩, 1, 1⟩, ⟨6, ⟨#[]⟩, none, 0, 0, some ⟨w1.heap.size + 1 + 1, 0, none⟩, 1, 1⟩] := ⟨_, rfl⟩
  have h8 : RwT W2 (w1.heap.size + 1 + 1 + 1) nl8 us := by
    subst hus
    refine ⟨rfl, RowV.blk (q 3 _ rfl) rfl (cells4_len _), fun i h h' => ?_⟩
    match i, h with
    | 0, _ => exact TzV.leaf _ _ 2 []
    | 1, _ => exact TzV.leaf _ _ 3 []
    | 2, _ => exact TzV.leaf _ _ 1 []
    | 3, _ => exact TzV.kid (c := ⟨2, ⟨#[]⟩, none, 0, 0, none, 0, 0⟩) 4 (q 0 _ rfl) (TzV.leaf _ _ 2 [])
    | 4, _ => exact TzV.kid (c := ⟨2, ⟨#[]⟩, none, 0, 0, none, 0, 0⟩) 5 (q 1 _ rfl) (TzV.leaf _ _ 2 [])
    | 5, _ => exact TzV.kid (c := ⟨2, ⟨#[]⟩, none, 0, 0, none, 0, 0⟩) 6 (q 2 _ rfl) (TzV.leaf _ _ 2 [])
  have hku : k < us.length := by rw [hus]; exact hk
  have hte : nl8.getD k zI = nl8[k]'hk := by rw [List.getD, List.getElem?_eq_getElem hk]; rfl
  have hvk : ∃ ck, us[k] = ck ∧ TzV W2 (Any W2) (nl8.getD k zI) ck := ⟨_, rfl, hte ▸ h8.val k hk hku⟩
  obtain ⟨ck, hck, hvk⟩ := hvk
  obtain ⟨p0, p1, p2, p3⟩ := h8.at k hku W2 (Below.refl _ _)
  rw [hck] at p0 p1 p2 p3
  have HW2 := Lib.hid hW2; have HB2 := Lib.hid (HX1.out.trans (hb2.mono HX1.out.size)); have HVK := Lib.hid hvk
  have hlu : us.length = 6 := by rw [hus]; rfl
  clear hW2 hb2 h8 q hus hvk hck hte
  rw [← HW2.out]
  clear HW2
  have hkz : (k : Int) < 6 := by omega
  have hfz : (f : Int) < 6 := by omega
  go_upto_region 5 with (go_at_call 12; (with_reducible refine (within8_is _ _ _ _ (by omega) (by omega) h1 h2 HR.out).mono ?_); rintro e w2 ⟨rfl, rfl⟩)
  clear p0 p1 p2 p3 hku hlu
  obtain ⟨W3, hW3⟩ : ∃ W3, W3 = ((W2.alloc (.cells #[.int .i64 ck.k, .string ck.n, .slice ck.an ck.ln ck.cn, .slice ck.ak ck.lk ck.ck] 30))) := ⟨_, rfl⟩
  have hb3 : Below W2.heap.size W2 W3 := by rw [hW3]; exact (Below.refl _ _).alloc (Nat.le_refl _) _
  have hx3 : W3.heap[W2.heap.size]? = some (.cells #[.int .i64 ck.k, .string ck.n, .slice ck.an ck.ln ck.cn, .slice ck.ak ck.lk ck.ck] 30 (0, 0)) := by rw [hW3]; exact heap_alloc_new W2 _
  have hz3 : W2.heap.size + 1 ≤ W3.heap.size := by rw [hW3]; simp
  obtain ⟨⟨a0, a1, a2, a3⟩, -⟩ := four_blk hx3
  rw [← hW3]
  have HB3 := Lib.hid hb3; have HX3 := Lib.hid hx3
  clear hW3 hb3 hx3
  go_upto_region 6 with fail
  obtain ⟨W4, hW4⟩ : ∃ W4, W4 = ((W3.alloc (.cells #[.string ⟨#[65]⟩, .int .i64 9, .string ⟨#[66]⟩, .slice none 0 0, .slice none 0 0, .string ⟨#[66]⟩, .int .i64 ck.k, .string ck.n, .slice ck.an ck.ln ck.cn, .slice ck.ak ck.lk ck.ck] 44)).alloc (.cells #[.int .i64 9, .string ⟨#[65]⟩, .slice none 0 0, .slice none 0 0, .slice (some ⟨W3.heap.size, 0, none⟩) 2 2, .slice none 0 0] 34)) := ⟨_, rfl⟩
  have q := made (l := [_, _]) hW4
  have hb4 : Below W3.heap.size W3 W4 := by rw [hW4]; exact ((Below.refl _ _).alloc (Nat.le_refl _) _).alloc (by simp) _
  have hz4 : W3.heap.size + 2 ≤ W4.heap.size := by rw [hW4]; simp
  have hvk4 : TzV W4 (Any W4) (nl8.getD k zI) ck := HVK.out.grow (HB3.out.trans (hb4.mono (by omega)))
  obtain ⟨⟨s0, s1, s2, s3, s4, s5⟩, -⟩ := six_blkF (q 1 _ rfl)
  have CN := new_at (w := W4) (ns8 k) 2 0 (SzV.build (TzV.leaf _ _ 9 [65]) (NmsV.two [65] [66] (q 0 _ rfl) (TzV.leaf _ _ 9 [66]) hvk4) (SgsV.nil none)) rfl HB.out.fit (ns8_short hk) ⟨by show 2 ≤ 1000000; omega, Nat.zero_le _⟩ HN.out
  rw [← hW4]
  have HB4 := Lib.hid hb4; have HVK4 := Lib.hid hvk4; have HCN := Lib.hid CN
  have HX4 := Lib.hid ((hb4.block _ (by omega)).trans HX3.out)
  clear hW4 hb4 q hvk4 CN a0 a1 a2 a3
  go_upto_region 9 with (go_at_call 10; (refine HCN.out.mono ?_); rintro e w5 ⟨tb, rb, nb, mb, sb, ty, nu, vs, rfl, s5, x5⟩; have HS5 := Lib.hid s5; have hz5 := x5.size; have HX5 := Lib.hid x5; clear s5 x5)
  clear s0 s1 s2 s3 s4 s5
  obtain ⟨⟨a0, a1, a2, a3⟩, -⟩ := four_blk ((HX5.out.block W2.heap.size (by omega)).trans HX4.out)
  have CA := HS5.out.adds HX5.out.size (nl8_fit hk).1 (nl8_fit hk).2 (HVK4.out.keep (S' := Any W4) (fun _ h => h) (fun g hg => HX5.out.block g hg)) (fun g hg => ⟨Nat.lt_of_lt_of_le hg HX5.out.size, HS5.out.far hg⟩) HB.out.ad
  have HCA := Lib.hid CA
  clear CA
  go_upto_region 10 with (go_at_call 20; (refine HCA.out.mono ?_); rintro e w6 ⟨rb6, nb6, ty6, nu6, rfl, s6, x6, -⟩; have HS6 := Lib.hid s6; have hz6 := x6.size; have HX6 := Lib.hid x6; clear s6 x6)
  clear a0 a1 a2 a3 HCA
  obtain ⟨nm, hnm⟩ : ∃ nm, nn8.getD f [] = nm := ⟨_, rfl⟩
  have hof : ∀ (j : Nat) (T0 : List Kz) (rbx nbx : Nat) (tyx nux : Value) (w0 W : World) (g : Nat) (r : Nat × Nat × List Kz), StV W4.heap.size w0 tb rbx nbx mb sb m tyx nux T0 N G vs → W4.heap.size ≤ w0.heap.size → OpL T0 N → j < T0.length → ofJ T0 N nm [j] = r → Below w0.heap.size w0 W → W.heap[g]? = some (.cells #[.int .i64 (j : Nat)] 3 (0, 0)) → Calls Try.prog 13 #[.pointer (some ⟨tb, 0, none⟩), .string ⟨nm.toArray⟩, .slice (some ⟨g, 0, none⟩) 1 1] W (MadeJ W4.heap.size w0 tb rbx nbx mb sb m N G vs r) := fun j T0 rbx nbx tyx nux w0 W g r hs hb ho hj hr hW hg => by
    have h := Of_any nm (hnm ▸ HB.out.bi) [j] W W4.heap.size tb rbx nbx mb sb m tyx nux T0 N G vs (hs.below hW) (Nat.le_trans hb hW.size) ho (fun q hq => by rw [List.mem_singleton.1 hq]; exact hj) (some ⟨g, 0, none⟩) 1 (idsL_blk (l := [j]) hg)
    rw [hr] at h
    exact h.mono fun e w' hq => hq.after hb hW
  obtain ⟨W7, hW7⟩ : ∃ W7, W7 = w6.alloc (.cells #[.string ⟨#[108, 101, 110]⟩, .string ⟨#[110, 111, 116]⟩, .string ⟨#[105, 56]⟩, .string ⟨#[116, 101, 120, 116]⟩, .string ⟨#[104, 97, 115]⟩, .string ⟨#[117, 51, 50]⟩] 9) := ⟨_, rfl⟩
  have hb7 : Below w6.heap.size w6 W7 := by rw [hW7]; exact (Below.refl _ _).alloc (Nat.le_refl _) _
  have n7 : W7.cell? ⟨w6.heap.size, f, none⟩ = some (.string ⟨(nn8.getD f []).toArray⟩) := cell_blk (cs := nmsV nn8) (by rw [hW7]; exact heap_alloc_new w6 _) (nmsV_at hf)
  rw [hnm] at n7
  have HW7 := Lib.hid hW7; have HB7 := Lib.hid hb7; have HOF := Lib.hid hof
  have hof1 : ofJ T2 N nm [m] = (r1, r2, T3) := hnm ▸ HB.out.of1
  have hof2 : ofJ T3 N nm [i] = (r1, r2, T4) := hnm ▸ HB.out.of2
  have HF1 := Lib.hid hof1; have HF2 := Lib.hid hof2
  have hz7 : w6.heap.size + 1 ≤ W7.heap.size := by rw [hW7]; simp
  clear hW7 hb7 hnm hof hof1 hof2
  go_upto_region 11 with (rw [← HW7.out]; go_at_call 12; (with_reducible refine (within8_is _ _ _ _ (by omega) (by omega) h3 h4 HQ.out).mono ?_); rintro e w2 ⟨rfl, rfl⟩)
  clear n7
  have hz56 : W4.heap.size ≤ W7.heap.size := by omega
  have HS7 := Lib.hid (HS6.out.below HB7.out)
  go_upto_region 12 with (first
    | (go_at_call 17; (refine HS7.out.main.mono ?_); rintro e w8 ⟨rfl, x8⟩; have hz8 := x8.size; have HS8 := Lib.hid (HS7.out.below x8); have HX8 := Lib.hid x8; clear x8)
    | (go_at_call 13; (refine (HOF.out m T2 rb6 nb6 ty6 nu6 w8 _ _ _ HS8.out (by omega) HB.out.o2 HB.out.m2 HF1.out ((Below.refl _ _).alloc (Nat.le_refl _) _) (heap_alloc_new _ _)).mono ?_); rintro e w9 ⟨rb9, nb9, ty9, nu9, rfl, s9, x9, -⟩; have hz9 := x9.size; have HS9 := Lib.hid s9; have HX9 := Lib.hid x9; clear s9 x9))
  go_wp2_with (go_at_call 13; (refine (HOF.out i T3 rb9 nb9 ty9 nu9 w9 _ _ _ HS9.out (by omega) HB.out.o3 HB.out.i3 HF2.out ((Below.refl _ _).alloc (Nat.le_refl _) _) (heap_alloc_new _ _)).mono ?_); rintro e w10 ⟨rb10, nb10, ty10, nu10, rfl, s10, x10, -⟩; have HX10 := Lib.hid x10; clear s10 x10)
  go_ret
  have hw1 := HX1.out.size; have hw2 := HB2.out.size
  exact ⟨rfl, HB2.out.trans ((HB3.out.mono hw2).trans ((HB4.out.mono (by omega)).trans ((HX5.out.mono (by omega)).trans ((HX6.out.mono (by omega)).trans ((HB7.out.mono (by omega)).trans ((HX8.out.mono (by omega)).trans ((HX9.out.mono (by omega)).trans (HX10.out.mono (by omega)))))))))⟩
end Sp
end Go.Proofs.Ytdophmlnmbcjlaa
