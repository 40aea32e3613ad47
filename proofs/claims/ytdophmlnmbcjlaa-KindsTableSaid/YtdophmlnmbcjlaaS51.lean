/- KindsNamed: for every input the law returns true, and each argument reads as before: the row's statement out of the walk. No condition. -/
import Derived.Test.YtdophmlnmbcjlaaS50
import Derived.HandedShaped
import Derived.ShutString
import Derived.ChangeOld
import Derived.Test.YtdophmlnmbcjlaaS48
import Derived.Test.YtdophmlnmbcjlaaS21
namespace Go.Proofs.Ytdophmlnmbcjlaa.kindsNamed
open Go.ChangeShapes Go.WideShapes Go.ChangeAt Go.RowKit
open Go.ChangeMaps (open_string shut_string)
open Go.Proofs.Ytdophmlnmbcjlaa.Sp (own laidOut)
set_option maxRecDepth 100000 in
theorem lifted (os : Os) (started : os.Started) (H : Type) (enc : TypeId × Value → H) :
    ReturnsInHanded {} Try.checked os 7 .any (Rows.kindsNamedSpec.pre6 enc Try.prog Try.f7 Rows.kindsNamedRow.domain false)
      (Rows.kindsNamedSpec.post enc Try.prog Try.f7 false true false false) := by
  refine returnsInHanded_of_change_shaped (C := Try.checked) own started (by kernel_rfl) Try.func7
    (ChangeSpec.witness6 (enc := enc) (C := Try.checked) false ⟨#[], #[.int .i64 0, .int .i64 0], []⟩ 8 (by kernel_rfl) (by kernel_rfl) (by kernel_rfl) (by kernel_rfl)) ?_
  intro W base args ds gs before hval0 hW _ _ hsh _
  have hval : ∀ (j : Nat) t v, Try.f7.params[j]? = some t → args[j]? = some v → Value.okWide Try.prog W .any base t v := hval0
  have hW' := hW
  obtain ⟨p, q, hA0, hV, rfl, hfz, hnd⟩ := hW
  have hA : DataW.TrodAll enc Try.prog W 0 (fun _ => true) true Try.f7.params.toList args.toList ds p := hA0
  rw [Try.params7] at hA hval
  obtain ⟨v0, vs0, d0, ds0, p0, q0, hargs, rfl, rfl, h0, r0⟩ := trodAll_cons hA
  obtain ⟨v1, vs1, d1, ds1, p1, q1, rfl, rfl, rfl, h1, r1⟩ := trodAll_cons r0
  obtain ⟨rfl, rfl, rfl⟩ := trodAll_nil r1
  obtain rfl : args = #[v0, v1] := by cases args; simp_all
  obtain ⟨rfl, rfl⟩ := trodVars_none hV
  obtain ⟨x0, rfl, rfl, rfl, wx0⟩ := open_int Try.underlying3 (hval 0 3 v0 rfl rfl) h0
  obtain ⟨x1, rfl, rfl, rfl, wx1⟩ := open_int Try.underlying3 (hval 1 3 v1 rfl rfl) h1
  clear hA0 hval0
  refine (Sp.KindsNamed_any x0 x1 W (bounds_i64 wx0).1 (bounds_i64 wx0).2 (bounds_i64 wx1).1 (bounds_i64 wx1).2).mono fun e W' ⟨he, bel⟩ => ?_
  subst he
  exact ⟨_, rfl, _, _, _, [], _, [], hW', trodAll_mk1 (shut_bool Try.underlying4 _), (trodAll_cons_mk (shut_int Try.underlying3 wx0) (trodAll_cons_mk (shut_int Try.underlying3 wx1) trodAll_mk0)), rfl, bel.frame _, fun h => by cases h⟩
theorem said : Rows.KindsNamedSaid :=
  OpenClaim.holds_of_wide 7 Try.f7 rfl rfl rfl rfl rfl rfl rfl ⟨rfl, rfl, rfl, rfl, rfl⟩ rfl rfl rfl rfl rfl (by kernel_rfl) Try.func7 (by kernel_rfl)
    (of_decide_eq_true (by kernel_rfl)) (by unfold Func.isWrapper; first | (rw [if_pos (by decide +kernel)]; kernel_rfl) | (rw [if_neg (by decide +kernel)]; exact ⟨rfl, rfl⟩))
    (fun os started H enc _ => lifted os started H enc)
end Go.Proofs.Ytdophmlnmbcjlaa.kindsNamed
namespace Go.Proofs.Ytdophmlnmbcjlaa
open Go.RowKit
namespace Sp
open Sc
set_option maxRecDepth 100000
theorem t8_parts : ∃ T N G, newK s8 = (0, ⟨T, N, G, 0⟩) ∧ T.length = 1 ∧ OpL T N ∧ ∀ f n, f < 23 → n < 6 → builtinB (nms8.getD f []) = true ∧ (decide ((ofJ T N (nms8.getD f []) (List.replicate n 0)).2.1 = 18) = !decide (n = takesJ (nms8.getD f []))) ∧ (nms8.getD f []).length ≤ 10 := by
  obtain ⟨⟨p1, p2, p3⟩, p4, -, -⟩ := known8_pure
  refine ⟨t8.T, t8.N, t8.G, Prod.ext p1 (by rw [← p3]; rfl), p2, opB_is p4, fun f n hf hn => ?_⟩
  have h := cntB_at hf hn
  unfold cntB at h
  simp only [Bool.and_eq_true, beq_iff_eq, decide_eq_true_eq] at h
  exact ⟨h.1.1, h.1.2, h.2⟩
def zerL (n : Nat) : List Value := (List.replicate n 0).map fun (j : Nat) => Value.int .i64 (j : Nat)
theorem make_zeros : ∀ (n : Nat), n < 6 → ∀ w : World, (Instr.makeSlice 39 (.int .i64 (n : Nat)) (.int .i64 (n : Nat))).run Try.prog w = .ok (.slice (some ⟨w.heap.size, 0, none⟩) n n) (w.alloc (.cells (zerL n).toArray 3))
  | 0, _, w => by kernel_rfl
  | 1, _, w => by kernel_rfl
  | 2, _, w => by kernel_rfl
  | 3, _, w => by kernel_rfl
  | 4, _, w => by kernel_rfl
  | 5, _, w => by kernel_rfl
set_option maxHeartbeats 30000000 in
theorem KindsCounts_any (x y : Int) (w : World) (h1 : -9223372036854775808 ≤ x) (h2 : x ≤ 9223372036854775807) (h3 : -9223372036854775808 ≤ y) (h4 : y ≤ 9223372036854775807) :
    Calls Try.prog 3 #[.int .i64 x, .int .i64 y] w fun e w' => e = .returned (.bool true) ∧ Below w.heap.size w w' := by
  obtain ⟨f, hr, hf⟩ : ∃ r : Nat, x % 23 = r ∧ r < 23 := ⟨(x % 23).toNat, by omega, by omega⟩
  obtain ⟨n, hq, hn⟩ : ∃ q : Nat, y % 6 = q ∧ q < 6 := ⟨(y % 6).toNat, by omega, by omega⟩
  obtain ⟨T, N, G, hk, hT, hO, hC⟩ := t8_parts
  obtain ⟨c1, c2, c3⟩ := hC f n hf hn
  obtain ⟨nm, hnm⟩ : ∃ nm, nms8.getD f [] = nm := ⟨_, rfl⟩
  rw [hnm] at c1 c2 c3
  obtain ⟨⟨r1, r2, r3⟩, hrr⟩ : ∃ r, ofJ T N nm (List.replicate n 0) = r := ⟨_, rfl⟩
  rw [hrr] at c2
  dsimp only at c2
  obtain ⟨tk, htk⟩ : ∃ tk, takesJ nm = tk := ⟨_, rfl⟩
  rw [htk] at c2
  have HR := Lib.hid hr; have HQ := Lib.hid hq; have HNM := Lib.hid hnm; have HOF := Lib.hid hrr; have HC1 := Lib.hid c1; have HC2 := Lib.hid c2; have HO := Lib.hid hO; have HT := Lib.hid hT; have HTK := Lib.hid htk
  have CN := fun W => new_at (w := W) s8 0 0 (SzV.build (TzV.leaf _ _ 2 []) (NmsV.nil none) (SgsV.nil none)) rfl (by kernel_rfl) ⟨fun i h => (by cases h), ⟨rfl, rfl⟩, fun g h => by cases h⟩ ⟨by simp [s8], by simp [s8]⟩ hk
  have HCN := Lib.hid CN
  clear hr hq hk hT hO hC c1 c2 hnm hrr CN htk c3
  go_enter Try.func3, Try.ntmps3
  go_upto_region 3 with (go_at_call 9; (with_reducible refine (known8_any _).mono ?_); rintro e w1 ⟨rfl, x1⟩; have hz1 := x1.size; have HX1 := Lib.hid x1; clear x1)
  go_upto_region 4 with (go_at_call 10; (refine (HCN.out w1).mono ?_); rintro e w3 ⟨tb, rb, nb, mb, sb, ty, nu, vs, rfl, s3, x3⟩; have HS3 := Lib.hid s3; have hz3 := x3.size; have HX3 := Lib.hid x3; clear s3 x3)
  have hfz : (f : Int) < 23 := by omega
  have hnz : (n : Int) < 6 := by omega
  obtain ⟨W4, hW4⟩ : ∃ W4, W4 = w3.alloc (.cells (nmsV nms8).toArray 9) := ⟨_, rfl⟩
  have hb4 : Below w3.heap.size w3 W4 := by rw [hW4]; exact (Below.refl _ _).alloc (Nat.le_refl _) _
  have n4 : W4.cell? ⟨w3.heap.size, f, none⟩ = some (.string ⟨(nms8.getD f []).toArray⟩) := cell_blk (cs := nmsV nms8) (by rw [hW4]; exact heap_alloc_new w3 _) (nmsV_at hf)
  rw [HNM.out] at n4
  have HB4 := Lib.hid hb4; have HW4 := Lib.hid hW4
  have hz4 := hb4.size
  clear hW4 hb4
  go_upto_region 5 with (first | (go_at_call 11; (refine (Builtins8_any _).mono ?_); rintro e w2 ⟨rfl, rfl⟩; rw [← HW4.out]) | (go_at_call 12; (with_reducible refine (within8_is _ _ _ _ (by omega) (by omega) h1 h2 HR.out).mono ?_); rintro e w2 ⟨rfl, rfl⟩))
  clear n4
  go_upto_region 6 with (go_at_call 12; (with_reducible refine (within8_is _ _ _ _ (by omega) (by omega) h3 h4 HQ.out).mono ?_); rintro e w2 ⟨rfl, rfl⟩)
  have hmk := make_zeros n hn
  obtain ⟨W5, hW5⟩ : ∃ W5, W5 = W4.alloc (.cells (zerL n).toArray 3) := ⟨_, rfl⟩
  have hb5 : Below W4.heap.size W4 W5 := by rw [hW5]; exact (Below.refl _ _).alloc (Nat.le_refl _) _
  have hz5 := hb5.size
  have h0 : ∀ j ∈ List.replicate n 0, j < T.length := fun j hj => by rw [(List.mem_replicate.1 hj).2, HT.out]; omega
  have C1 := Of_any nm HC1.out (List.replicate n 0) W5 w1.heap.size tb rb nb mb sb 0 ty nu T N G vs (HS3.out.below (HB4.out.trans (hb5.mono hz4))) (by omega) HO.out h0 (some ⟨W4.heap.size, 0, none⟩) n (idsL_blk (by rw [hW5]; exact heap_alloc_new W4 _))
  rw [HOF.out, List.length_replicate] at C1
  have HCO := Lib.hid C1; have HB5 := Lib.hid hb5; have HW5 := Lib.hid hW5
  clear C1 hb5 hW5 h0
  go_upto_region 7 with (rw [← HW5.out]; go_at_call 13; (refine HCO.out.mono ?_); rintro e w6 ⟨rb6, nb6, ty6, nu6, rfl, s6, x6, -⟩; have hz6 := x6.size; have HX6 := Lib.hid x6; clear s6 x6)
  have hB : Below w.heap.size w w6 := HX1.out.trans ((HX3.out.mono hz1).trans ((HB4.out.mono (by omega)).trans ((HB5.out.mono (by omega)).trans (HX6.out.mono hz1))))
  have HBB := Lib.hid hB
  have hbr := Builtin_ref nm w6
  rw [HC1.out] at hbr
  have hcr := Count_ref nm w6 HC1.out
  rw [HTK.out] at hcr
  have HBR := Lib.hid hbr; have HCR := Lib.hid hcr
  clear hB hbr hcr hmk
  by_cases hnt : n = tk
  · have hne : ¬ r2 = 18 := by have := HC2.out; rw [decide_eq_true hnt] at this; simpa using this
    have tz : ((n : Int) != (tk : Int)) = false := by simp; omega
    have tr : ((r2 : Int) == 18) = false := by simp; omega
    clear hnt
    go_wp2_with (first | (go_at_call 14; (refine HCR.out.mono ?_); rintro e w7 ⟨rfl, rfl⟩) | (go_at_call 15; (refine HBR.out.mono ?_); rintro e w7 ⟨rfl, h7⟩; subst h7))
    go_ret
    exact ⟨rfl, HBB.out⟩
  · have hne : r2 = 18 := by have := HC2.out; rw [decide_eq_false hnt] at this; simpa using this
    subst hne
    have tz : ((n : Int) != (tk : Int)) = true := by simp; omega
    clear hnt
    go_wp2_with (first | (go_at_call 14; (refine HCR.out.mono ?_); rintro e w7 ⟨rfl, rfl⟩) | (go_at_call 15; (refine HBR.out.mono ?_); rintro e w7 ⟨rfl, h7⟩; subst h7))
    go_ret
    exact ⟨rfl, HBB.out⟩
end Sp
end Go.Proofs.Ytdophmlnmbcjlaa
