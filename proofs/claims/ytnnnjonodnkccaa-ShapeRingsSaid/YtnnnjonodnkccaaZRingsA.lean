/- ShapeRings' walk, its ways. -/
import Derived.Test.YtnnnjonodnkccaaZRingsP
namespace Go.Proofs.Ytnnnjonodnkccaa
open Go.RowKit
namespace Sp
open Sc

set_option maxRecDepth 100000 in
set_option maxHeartbeats 30000000 in
theorem ShapeRings_0 (x at_ how : Int) (w : World) (h1 : -9223372036854775808 ≤ x) (h2 : x ≤ 9223372036854775807) (h3 : -9223372036854775808 ≤ at_) (h4 : at_ ≤ 9223372036854775807) (h5 : -9223372036854775808 ≤ how) (h6 : how ≤ 9223372036854775807) (hq : how % 7 = 0) :
    Calls Try.prog 5 #[.int .i64 x, .int .i64 at_, .int .i64 how] w fun e w' => e = .returned (.bool true) ∧ Below w.heap.size w w' := by
  obtain ⟨r, hr, hr6⟩ : ∃ r : Nat, x % 6 = r ∧ r < 6 := ⟨(x % 6).toNat, by omega, by omega⟩
  obtain ⟨n, hn⟩ : ∃ n, n = 1 + r := ⟨_, rfl⟩
  obtain ⟨a, ha, han⟩ : ∃ a : Nat, at_ % (n : Int) = a ∧ a < n := ⟨(at_ % (n : Int)).toNat, by
    have := Int.emod_nonneg at_ (show (n : Int) ≠ 0 by omega); omega, by
    have := Int.emod_nonneg at_ (show (n : Int) ≠ 0 by omega); have := Int.emod_lt_of_pos at_ (show (0 : Int) < n by omega); omega⟩
  have hn7 : n < 7 := by omega
  have hn0 : 0 < n := by omega
  have hsum : (1 : Int) + (r : Int) = (n : Int) := by omega
  have HR := Lib.hid hr; have HA := Lib.hid ha; have HQ := Lib.hid hq; clear hr ha hq hn
  obtain ⟨i0, hi, hz0, hz1, hz2⟩ := info_parts infoN
  have HI := Lib.hid hi; have HI0 := Lib.hid hz0; have HI1 := Lib.hid hz1; have HI2 := Lib.hid hz2; clear hi hz0 hz1 hz2
  go_enter Try.func5, Try.ntmps5
  go_wp2_with (go_at_call 12; (with_reducible refine (known_any _).mono ?_); rintro e w1 ⟨rfl, x1⟩; have HX1 := Lib.hid x1; clear x1)
  have hx1 := HX1.out.size
  go_wp2_with (first | (go_at_call 19; (with_reducible refine (within_is _ _ _ _ (by omega) (by omega) h1 h2 HR.out).mono ?_); rintro e w2 ⟨rfl, rfl⟩) | (go_at_call 19; (with_reducible refine (within_is _ _ _ _ (by omega) (by omega) h5 h6 HQ.out).mono ?_); rintro e w2 ⟨rfl, rfl⟩))
  have HSUM := Lib.hid hsum; clear hsum
  go_loopw [8] (fun v wr => ∃ k x us, RRel w w1.heap.size n a 0 v wr k x us) (fun v _ => n - (intOf v).toNat)
  case atStart => exact ⟨0, .slice none 0 0, [], rfl, Nat.zero_le _, by rw [blk_if, if_pos rfl], GRow.start _ _ _, HX1.out.alloc hx1 _⟩
  case round =>
    obtain ⟨k, x, us, h⟩ := hrel
    obtain rfl := h.slot
    have hk := h.le
    obtain ⟨⟨s0, s1, s2, s3, s4, s5⟩, ⟨g0, g1, g2, g3, g4, g5⟩⟩ := six_blkF h.sat
    have hz := (Array.getElem?_eq_some_iff.1 h.sat).1
    by_cases hlt : k < n
    · have hul : us.length = k := by rw [h.row.len]; simp [ringL]
      have hm0 := Int.emod_nonneg ((k : Int) + 1) (show (n : Int) ≠ 0 by omega)
      have hm1 := Int.emod_lt_of_pos ((k : Int) + 1) (show (0 : Int) < n by omega)
      have hcv1 := conv_atZ (97 + ((k : Int) + 1) % (n : Int)) (lower ((k + 1) % n)) (by rw [← lower_is _ (by have := Nat.mod_lt (k + 1) hn0; omega)]; simp)
      have hcv2 := conv_atZ (97 + (k : Int)) (lower k) (lower_is k (by omega))
      have hct1 := catN (lower ((k + 1) % n))
      have hct2 := catN (lower k)
      obtain ⟨xa, xc, rfl⟩ := h.row.cut
      have hX : ∀ y ∈ [w1.heap.size], y < wr.heap.size := fun y hy => by rw [List.mem_singleton.1 hy]; exact hz
      have hvs : ∀ v ∈ [Value.slice xa (ringL n a 0 k).length xc], ∀ g, v.ownBlock = some g → g < wr.heap.size := fun v hv g hg => by rw [List.mem_singleton.1 hv] at hg; exact (h.row.own.lt g hg).2
      have hy1 : w1.heap.size < wr.heap.size + 1 := by omega
      have hy2 : w1.heap.size < wr.heap.size + 1 + 1 := by omega
      have hy3 : w1.heap.size < wr.heap.size + 1 + 1 + 1 := by omega
      have hy4 : w1.heap.size < wr.heap.size + 1 + 1 + 1 + 1 := by omega
      have hy5 : w1.heap.size < wr.heap.size + 1 + 1 + 1 + 1 + 1 := by omega
      have hy6 : w1.heap.size < wr.heap.size + 1 + 1 + 1 + 1 + 1 + 1 := by omega
      have hy7 : w1.heap.size < wr.heap.size + 1 + 1 + 1 + 1 + 1 + 1 + 1 := by omega
      have hy8 : w1.heap.size < wr.heap.size + 1 + 1 + 1 + 1 + 1 + 1 + 1 + 1 := by omega
      have hy9 : w1.heap.size < wr.heap.size + 1 + 1 + 1 + 1 + 1 + 1 + 1 + 1 + 1 := by omega
      have H := Lib.hid h; have HUL := Lib.hid hul; have HX := Lib.hid hX; have HVS := Lib.hid hvs
      clear h hul hX hvs
      by_cases hka : k = a
      · subst hka
        go_wp2_with (first
          | (go_at_call 19; (with_reducible refine (within_is _ _ _ _ (by omega) (by omega) h3 h4 HA.out).mono ?_); rintro e w2 ⟨rfl, rfl⟩)
          | (at_builtin; (refine Sh.wpList_append_fresh rfl _ _ 26 rfl (w1.heap.size + 1) 44 i0 (.agg #[.string ⟨#[]⟩, .int .i64 0, .string ⟨#[]⟩, .slice none 0 0, .slice none 0 0]) 5 88 Try.underlying26 HI.out HI0.out HI1.out HI2.out rfl (by decide) _ us.length (us.flatMap encZ) rfl ((H.out.row.below (by repeat first | exact Below.refl _ _ | refine Below.alloc ?_ (by simp <;> omega) _)).alloc _).own ⟨wr.heap.size + 1 + 1 + 1 + 1 + 1 + 1, 0, none⟩ 1 1 [.string ⟨#[78, lower k]⟩, .int .i64 7, .string ⟨#[]⟩, .slice (some ⟨wr.heap.size + 1 + 1, 0, none⟩) 1 1, .slice (some ⟨wr.heap.size + 1 + 1 + 1, 0, none⟩) 1 1] rfl rfl (cells_atZ _ _ _ _ (by simp)) (one5 (n := [78, lower k])) (by have := HUL.out; unfold maxLen; omega) (by have := HUL.out; omega) (by simp; omega) ?_); intro v' w3 hown' hgrow hfr; have hn := (by unfold ringT; rw [if_pos rfl]; first | done | rfl : ringT n k 0 k = .mk 7 [] [[120]] [.mk 9 [78, lower ((k + 1) % n)] [] []]); obtain ⟨hg3, hst⟩ := GRow.snoc (n := [78, lower k]) (H.out.row.below (by repeat first | exact Below.refl _ _ | refine Below.alloc ?_ (by simp <;> omega) _)) (TzV.fldF (gn := wr.heap.size + 1 + 1) (g := wr.heap.size + 1 + 1 + 1) (tn := 9) (fn := (0, 0)) (ty := 25) (fr := (0, 0)) (c := ⟨9, ⟨#[78, lower ((k + 1) % n)]⟩, none, 0, 0, none, 0, 0⟩) 7 [120] (by rw [blk_if, if_neg (by simp <;> omega), blk_if, if_neg (by simp <;> omega), blk_if, if_neg (by simp <;> omega), blk_if, if_pos (by simp)]; try rfl) (by rw [blk_if, if_neg (by simp <;> omega), blk_if, if_neg (by simp <;> omega), blk_if, if_pos (by simp)]; try rfl) (Free.new (w := wr) (by omega) (by simp <;> omega) HX.out HVS.out) (Free.new (w := wr) (by omega) (by simp <;> omega) HX.out HVS.out) (TzV.leaf _ _ 9 [78, lower ((k + 1) % n)])) hown' hgrow hfr; rw [← hn, ← ringL_succ] at hg3; have hS3 := (hgrow.block w1.heap.size (by simp; omega) (fun e => H.out.row.ne (by omega) e.symm)).trans ((Below.block (by repeat first | exact Below.refl _ _ | refine Below.alloc ?_ (by simp <;> omega) _) _ hz).trans H.out.sat); have hb3 : Below w.heap.size w w3 := Below.trans (by repeat first | exact H.out.below | refine Below.alloc ?_ (by have := H.out.below.size; simp <;> omega) _) (below_grown hgrow (fun g e => by have := (H.out.row.own.lt g e).1; omega) (by have := H.out.below.size; simp <;> omega)); obtain ⟨va, vc, rfl⟩ := own_sliceZ hown'; have hz3 := hgrow.size; simp at hz3; obtain ⟨⟨c0, c1, c2, c3, c4, c5⟩, ⟨d0, d1, d2, d3, d4, d5⟩⟩ := six_blkF hS3; have HG3 := Lib.hid hg3; have HS3 := Lib.hid hS3; have HB3 := Lib.hid hb3; clear hown' hgrow hfr hg3 hst hS3 hb3 hn))
        have hO : Only w1.heap.size w3 (w3.setCell ⟨w1.heap.size, 4, none⟩ (.slice va (us.length + 1) vc)) := (Only.refl _ _).setCell _ _
        have e3 := HB3.out.size
        have e1 := set_six4 HS3.out (.slice va (us.length + 1) vc)
        have e4 := HB3.out.trans (hO.below (by omega) (by omega))
        have e5 := HG3.out.only (b := w1.heap.size) (by simp) (by simp) hO
        have E1 := Lib.hid e1; have E4 := Lib.hid e4; have E5 := Lib.hid e5
        clear e1 e3 e4 e5 hcv1 hcv2 hct1 hct2
        go_roundw
        case rel => exact ⟨k + 1, _, _, by go_num, by omega, E1.out, E5.out, E4.out⟩
        case measure => simp [intOf]; omega
      · have hkz : ((k : Int) == (a : Int)) = false := by simp; omega
        go_wp2_with (first
          | (go_at_call 19; (with_reducible refine (within_is _ _ _ _ (by omega) (by omega) h3 h4 HA.out).mono ?_); rintro e w2 ⟨rfl, rfl⟩)
          | (at_builtin; (refine Sh.wpList_append_fresh rfl _ _ 26 rfl (w1.heap.size + 1) 44 i0 (.agg #[.string ⟨#[]⟩, .int .i64 0, .string ⟨#[]⟩, .slice none 0 0, .slice none 0 0]) 5 88 Try.underlying26 HI.out HI0.out HI1.out HI2.out rfl (by decide) _ us.length (us.flatMap encZ) rfl ((H.out.row.below (by repeat first | exact Below.refl _ _ | refine Below.alloc ?_ (by simp <;> omega) _)).alloc _).own ⟨wr.heap.size + 1 + 1 + 1 + 1 + 1 + 1, 0, none⟩ 1 1 [.string ⟨#[78, lower k]⟩, .int .i64 7, .string ⟨#[]⟩, .slice (some ⟨wr.heap.size + 1 + 1, 0, none⟩) 1 1, .slice (some ⟨wr.heap.size + 1 + 1 + 1, 0, none⟩) 1 1] rfl rfl (cells_atZ _ _ _ _ (by simp)) (one5 (n := [78, lower k])) (by have := HUL.out; unfold maxLen; omega) (by have := HUL.out; omega) (by simp; omega) ?_); intro v' w3 hown' hgrow hfr; have hn := (by unfold ringT; rw [if_neg hka]; first | done | rfl : ringT n a 0 k = .mk 7 [] [[120]] [.mk 9 [78, lower ((k + 1) % n)] [] []]); obtain ⟨hg3, hst⟩ := GRow.snoc (n := [78, lower k]) (H.out.row.below (by repeat first | exact Below.refl _ _ | refine Below.alloc ?_ (by simp <;> omega) _)) (TzV.fldF (gn := wr.heap.size + 1 + 1) (g := wr.heap.size + 1 + 1 + 1) (tn := 9) (fn := (0, 0)) (ty := 25) (fr := (0, 0)) (c := ⟨9, ⟨#[78, lower ((k + 1) % n)]⟩, none, 0, 0, none, 0, 0⟩) 7 [120] (by rw [blk_if, if_neg (by simp <;> omega), blk_if, if_neg (by simp <;> omega), blk_if, if_neg (by simp <;> omega), blk_if, if_pos (by simp)]; try rfl) (by rw [blk_if, if_neg (by simp <;> omega), blk_if, if_neg (by simp <;> omega), blk_if, if_pos (by simp)]; try rfl) (Free.new (w := wr) (by omega) (by simp <;> omega) HX.out HVS.out) (Free.new (w := wr) (by omega) (by simp <;> omega) HX.out HVS.out) (TzV.leaf _ _ 9 [78, lower ((k + 1) % n)])) hown' hgrow hfr; rw [← hn, ← ringL_succ] at hg3; have hS3 := (hgrow.block w1.heap.size (by simp; omega) (fun e => H.out.row.ne (by omega) e.symm)).trans ((Below.block (by repeat first | exact Below.refl _ _ | refine Below.alloc ?_ (by simp <;> omega) _) _ hz).trans H.out.sat); have hb3 : Below w.heap.size w w3 := Below.trans (by repeat first | exact H.out.below | refine Below.alloc ?_ (by have := H.out.below.size; simp <;> omega) _) (below_grown hgrow (fun g e => by have := (H.out.row.own.lt g e).1; omega) (by have := H.out.below.size; simp <;> omega)); obtain ⟨va, vc, rfl⟩ := own_sliceZ hown'; have hz3 := hgrow.size; simp at hz3; obtain ⟨⟨c0, c1, c2, c3, c4, c5⟩, ⟨d0, d1, d2, d3, d4, d5⟩⟩ := six_blkF hS3; have HG3 := Lib.hid hg3; have HS3 := Lib.hid hS3; have HB3 := Lib.hid hb3; clear hown' hgrow hfr hg3 hst hS3 hb3 hn))
        have hO : Only w1.heap.size w3 (w3.setCell ⟨w1.heap.size, 4, none⟩ (.slice va (us.length + 1) vc)) := (Only.refl _ _).setCell _ _
        have e3 := HB3.out.size
        have e1 := set_six4 HS3.out (.slice va (us.length + 1) vc)
        have e4 := HB3.out.trans (hO.below (by omega) (by omega))
        have e5 := HG3.out.only (b := w1.heap.size) (by simp) (by simp) hO
        have E1 := Lib.hid e1; have E4 := Lib.hid e4; have E5 := Lib.hid e5
        clear e1 e3 e4 e5 hcv1 hcv2 hct1 hct2
        go_roundw
        case rel => exact ⟨k + 1, _, _, by go_num, by omega, E1.out, E5.out, E4.out⟩
        case measure => simp [intOf]; omega
    · obtain rfl : n = k := by omega
      obtain ⟨xa, xc, rfl⟩ := h.row.cut
      have hO := put4_only wr w1.heap.size ⟨9, ⟨#[78, 97]⟩, none, 0, 0, none, 0, 0⟩
      have hs1 := put4_six h.sat ⟨9, ⟨#[78, 97]⟩, none, 0, 0, none, 0, 0⟩
      have hR1 := h.row.only (b := w1.heap.size) (by simp) (by simp) hO
      have hb1 := h.below.trans (hO.below hx1 h.below.size)
      have hi := ring_is hn7 han (by decide : 0 < 7)
      have C1 : Calls Try.prog 17 #[.agg #[.int .i64 9, .string ⟨#[78, 97]⟩, .slice none 0 0, .slice none 0 0, .slice xa (ringL n a 0 n).length xc, .slice none 0 0]] (put4 wr w1.heap.size ⟨9, ⟨#[78, 97]⟩, none, 0, 0, none, 0, 0⟩) (fun e w' => e = .returned (.int .i64 (ringE 0)) ∧ Below (put4 wr w1.heap.size ⟨9, ⟨#[78, 97]⟩, none, 0, 0, none, 0, 0⟩).heap.size (put4 wr w1.heap.size ⟨9, ⟨#[78, 97]⟩, none, 0, 0, none, 0, 0⟩) w') := Check_at ⟨zN [78, 97], ringL n a 0 n, []⟩ xc 0 (SzV.build (TzV.leaf _ _ 9 [78, 97]) hR1.nms (SgsV.nil none)) rfl hi.1 (ringL_len hn7) hi.2.1
      have C2 : ∀ W, Below (put4 wr w1.heap.size ⟨9, ⟨#[78, 97]⟩, none, 0, 0, none, 0, 0⟩).heap.size (put4 wr w1.heap.size ⟨9, ⟨#[78, 97]⟩, none, 0, 0, none, 0, 0⟩) W → Calls Try.prog 21 #[.agg #[.int .i64 9, .string ⟨#[78, 97]⟩, .slice none 0 0, .slice none 0 0, .slice xa (ringL n a 0 n).length xc, .slice none 0 0], .agg #[.int .i64 9, .string ⟨#[78, 97]⟩, .slice none 0 0, .slice none 0 0]] W (fun e w' => e = .returned (.bool (decide (ringE 0 = 0))) ∧ Below W.heap.size W w') := fun W hW => by
        have := Finite_any (Any W) ⟨zN [78, 97], ringL n a 0 n, []⟩ (zN [78, 97]) ⟨9, ⟨#[78, 97]⟩, none, 0, 0, none, 0, 0⟩ ⟨9, ⟨#[78, 97]⟩, none, 0, 0, none, 0, 0⟩ xa none us [] xc 0 W (fun _ h => h) (SzFit.of hi.1) rfl (by simp [ringL]; omega) (SzV.build (TzV.leaf _ _ 9 [78, 97]) (hR1.below hW).nms (SgsV.nil none)) (TzV.leaf _ _ 9 [78, 97])
        rw [hi.2.2] at this
        exact this
      have HC1 := Lib.hid C1; have HC2 := Lib.hid C2; have HS1 := Lib.hid hs1; have HB1 := Lib.hid hb1
      clear C1 C2 hR1 hs1 hb1 h hO hi
      go_wp2_with (first
          | (go_at_call 17; (refine HC1.out.mono ?_); rintro e w3 ⟨rfl, x3⟩; rw [show ringE 0 = 14 from rfl]; have hS3 := (x3.block _ (Array.getElem?_eq_some_iff.1 HS1.out).1).trans HS1.out; obtain ⟨⟨c0, c1, c2, c3, c4, c5⟩, _⟩ := six_blkF hS3; have HX3 := Lib.hid x3; clear hS3 x3)
          | (go_at_call 21; (refine (HC2.out _ HX3.out).mono ?_); rintro e w4 ⟨rfl, x4⟩; rw [show decide (ringE 0 = 0) = false from rfl]; have HX4 := Lib.hid x4; clear x4))
      go_ret
      exact ⟨rfl, HB1.out.trans ((HX3.out.trans (HX4.out.mono HX3.out.size)).mono HB1.out.size)⟩

set_option maxRecDepth 100000 in
set_option maxHeartbeats 30000000 in
theorem ShapeRings_1 (x at_ how : Int) (w : World) (h1 : -9223372036854775808 ≤ x) (h2 : x ≤ 9223372036854775807) (h3 : -9223372036854775808 ≤ at_) (h4 : at_ ≤ 9223372036854775807) (h5 : -9223372036854775808 ≤ how) (h6 : how ≤ 9223372036854775807) (hq : how % 7 = 1) :
    Calls Try.prog 5 #[.int .i64 x, .int .i64 at_, .int .i64 how] w fun e w' => e = .returned (.bool true) ∧ Below w.heap.size w w' := by
  obtain ⟨r, hr, hr6⟩ : ∃ r : Nat, x % 6 = r ∧ r < 6 := ⟨(x % 6).toNat, by omega, by omega⟩
  obtain ⟨n, hn⟩ : ∃ n, n = 1 + r := ⟨_, rfl⟩
  obtain ⟨a, ha, han⟩ : ∃ a : Nat, at_ % (n : Int) = a ∧ a < n := ⟨(at_ % (n : Int)).toNat, by
    have := Int.emod_nonneg at_ (show (n : Int) ≠ 0 by omega); omega, by
    have := Int.emod_nonneg at_ (show (n : Int) ≠ 0 by omega); have := Int.emod_lt_of_pos at_ (show (0 : Int) < n by omega); omega⟩
  have hn7 : n < 7 := by omega
  have hn0 : 0 < n := by omega
  have hsum : (1 : Int) + (r : Int) = (n : Int) := by omega
  have HR := Lib.hid hr; have HA := Lib.hid ha; have HQ := Lib.hid hq; clear hr ha hq hn
  obtain ⟨i0, hi, hz0, hz1, hz2⟩ := info_parts infoN
  have HI := Lib.hid hi; have HI0 := Lib.hid hz0; have HI1 := Lib.hid hz1; have HI2 := Lib.hid hz2; clear hi hz0 hz1 hz2
  go_enter Try.func5, Try.ntmps5
  go_wp2_with (go_at_call 12; (with_reducible refine (known_any _).mono ?_); rintro e w1 ⟨rfl, x1⟩; have HX1 := Lib.hid x1; clear x1)
  have hx1 := HX1.out.size
  go_wp2_with (first | (go_at_call 19; (with_reducible refine (within_is _ _ _ _ (by omega) (by omega) h1 h2 HR.out).mono ?_); rintro e w2 ⟨rfl, rfl⟩) | (go_at_call 19; (with_reducible refine (within_is _ _ _ _ (by omega) (by omega) h5 h6 HQ.out).mono ?_); rintro e w2 ⟨rfl, rfl⟩))
  have HSUM := Lib.hid hsum; clear hsum
  go_loopw [8] (fun v wr => ∃ k x us, RRel w w1.heap.size n a 1 v wr k x us) (fun v _ => n - (intOf v).toNat)
  case atStart => exact ⟨0, .slice none 0 0, [], rfl, Nat.zero_le _, by rw [blk_if, if_pos rfl], GRow.start _ _ _, HX1.out.alloc hx1 _⟩
  case round =>
    obtain ⟨k, x, us, h⟩ := hrel
    obtain rfl := h.slot
    have hk := h.le
    obtain ⟨⟨s0, s1, s2, s3, s4, s5⟩, ⟨g0, g1, g2, g3, g4, g5⟩⟩ := six_blkF h.sat
    have hz := (Array.getElem?_eq_some_iff.1 h.sat).1
    by_cases hlt : k < n
    · have hul : us.length = k := by rw [h.row.len]; simp [ringL]
      have hm0 := Int.emod_nonneg ((k : Int) + 1) (show (n : Int) ≠ 0 by omega)
      have hm1 := Int.emod_lt_of_pos ((k : Int) + 1) (show (0 : Int) < n by omega)
      have hcv1 := conv_atZ (97 + ((k : Int) + 1) % (n : Int)) (lower ((k + 1) % n)) (by rw [← lower_is _ (by have := Nat.mod_lt (k + 1) hn0; omega)]; simp)
      have hcv2 := conv_atZ (97 + (k : Int)) (lower k) (lower_is k (by omega))
      have hct1 := catN (lower ((k + 1) % n))
      have hct2 := catN (lower k)
      obtain ⟨xa, xc, rfl⟩ := h.row.cut
      have hX : ∀ y ∈ [w1.heap.size], y < wr.heap.size := fun y hy => by rw [List.mem_singleton.1 hy]; exact hz
      have hvs : ∀ v ∈ [Value.slice xa (ringL n a 1 k).length xc], ∀ g, v.ownBlock = some g → g < wr.heap.size := fun v hv g hg => by rw [List.mem_singleton.1 hv] at hg; exact (h.row.own.lt g hg).2
      have hy1 : w1.heap.size < wr.heap.size + 1 := by omega
      have hy2 : w1.heap.size < wr.heap.size + 1 + 1 := by omega
      have hy3 : w1.heap.size < wr.heap.size + 1 + 1 + 1 := by omega
      have hy4 : w1.heap.size < wr.heap.size + 1 + 1 + 1 + 1 := by omega
      have hy5 : w1.heap.size < wr.heap.size + 1 + 1 + 1 + 1 + 1 := by omega
      have hy6 : w1.heap.size < wr.heap.size + 1 + 1 + 1 + 1 + 1 + 1 := by omega
      have hy7 : w1.heap.size < wr.heap.size + 1 + 1 + 1 + 1 + 1 + 1 + 1 := by omega
      have hy8 : w1.heap.size < wr.heap.size + 1 + 1 + 1 + 1 + 1 + 1 + 1 + 1 := by omega
      have hy9 : w1.heap.size < wr.heap.size + 1 + 1 + 1 + 1 + 1 + 1 + 1 + 1 + 1 := by omega
      have H := Lib.hid h; have HUL := Lib.hid hul; have HX := Lib.hid hX; have HVS := Lib.hid hvs
      clear h hul hX hvs
      by_cases hka : k = a
      · subst hka
        go_wp2_with (first
          | (go_at_call 19; (with_reducible refine (within_is _ _ _ _ (by omega) (by omega) h3 h4 HA.out).mono ?_); rintro e w2 ⟨rfl, rfl⟩)
          | (at_builtin; (refine Sh.wpList_append_fresh rfl _ _ 26 rfl (w1.heap.size + 1) 44 i0 (.agg #[.string ⟨#[]⟩, .int .i64 0, .string ⟨#[]⟩, .slice none 0 0, .slice none 0 0]) 5 88 Try.underlying26 HI.out HI0.out HI1.out HI2.out rfl (by decide) _ us.length (us.flatMap encZ) rfl ((H.out.row.below (by repeat first | exact Below.refl _ _ | refine Below.alloc ?_ (by simp <;> omega) _)).alloc _).own ⟨wr.heap.size + 1 + 1 + 1 + 1 + 1 + 1 + 1, 0, none⟩ 1 1 [.string ⟨#[78, lower k]⟩, .int .i64 4, .string ⟨#[]⟩, .slice none 0 0, .slice (some ⟨wr.heap.size + 1 + 1 + 1 + 1 + 1, 0, none⟩) 1 1] rfl rfl (cells_atZ _ _ _ _ (by simp)) (one5 (n := [78, lower k])) (by have := HUL.out; unfold maxLen; omega) (by have := HUL.out; omega) (by simp; omega) ?_); intro v' w3 hown' hgrow hfr; have hn := (by unfold ringT; rw [if_pos rfl]; first | done | rfl : ringT n k 1 k = .mk 4 [] [] [.mk 9 [78, lower ((k + 1) % n)] [] []]); obtain ⟨hg3, hst⟩ := GRow.snoc (n := [78, lower k]) (H.out.row.below (by repeat first | exact Below.refl _ _ | refine Below.alloc ?_ (by simp <;> omega) _)) (TzV.kidF (g := wr.heap.size + 1 + 1 + 1 + 1 + 1) (ty := 25) (fr := (0, 0)) (c := ⟨9, ⟨#[78, lower ((k + 1) % n)]⟩, none, 0, 0, none, 0, 0⟩) 4 (by rw [blk_if, if_neg (by simp <;> omega), blk_if, if_pos (by simp)]; try rfl) (Free.new (w := wr) (by omega) (by simp <;> omega) HX.out HVS.out) (TzV.leaf _ _ 9 [78, lower ((k + 1) % n)])) hown' hgrow hfr; rw [← hn, ← ringL_succ] at hg3; have hS3 := (hgrow.block w1.heap.size (by simp; omega) (fun e => H.out.row.ne (by omega) e.symm)).trans ((Below.block (by repeat first | exact Below.refl _ _ | refine Below.alloc ?_ (by simp <;> omega) _) _ hz).trans H.out.sat); have hb3 : Below w.heap.size w w3 := Below.trans (by repeat first | exact H.out.below | refine Below.alloc ?_ (by have := H.out.below.size; simp <;> omega) _) (below_grown hgrow (fun g e => by have := (H.out.row.own.lt g e).1; omega) (by have := H.out.below.size; simp <;> omega)); obtain ⟨va, vc, rfl⟩ := own_sliceZ hown'; have hz3 := hgrow.size; simp at hz3; obtain ⟨⟨c0, c1, c2, c3, c4, c5⟩, ⟨d0, d1, d2, d3, d4, d5⟩⟩ := six_blkF hS3; have HG3 := Lib.hid hg3; have HS3 := Lib.hid hS3; have HB3 := Lib.hid hb3; clear hown' hgrow hfr hg3 hst hS3 hb3 hn))
        have hO : Only w1.heap.size w3 (w3.setCell ⟨w1.heap.size, 4, none⟩ (.slice va (us.length + 1) vc)) := (Only.refl _ _).setCell _ _
        have e3 := HB3.out.size
        have e1 := set_six4 HS3.out (.slice va (us.length + 1) vc)
        have e4 := HB3.out.trans (hO.below (by omega) (by omega))
        have e5 := HG3.out.only (b := w1.heap.size) (by simp) (by simp) hO
        have E1 := Lib.hid e1; have E4 := Lib.hid e4; have E5 := Lib.hid e5
        clear e1 e3 e4 e5 hcv1 hcv2 hct1 hct2
        go_roundw
        case rel => exact ⟨k + 1, _, _, by go_num, by omega, E1.out, E5.out, E4.out⟩
        case measure => simp [intOf]; omega
      · have hkz : ((k : Int) == (a : Int)) = false := by simp; omega
        go_wp2_with (first
          | (go_at_call 19; (with_reducible refine (within_is _ _ _ _ (by omega) (by omega) h3 h4 HA.out).mono ?_); rintro e w2 ⟨rfl, rfl⟩)
          | (at_builtin; (refine Sh.wpList_append_fresh rfl _ _ 26 rfl (w1.heap.size + 1) 44 i0 (.agg #[.string ⟨#[]⟩, .int .i64 0, .string ⟨#[]⟩, .slice none 0 0, .slice none 0 0]) 5 88 Try.underlying26 HI.out HI0.out HI1.out HI2.out rfl (by decide) _ us.length (us.flatMap encZ) rfl ((H.out.row.below (by repeat first | exact Below.refl _ _ | refine Below.alloc ?_ (by simp <;> omega) _)).alloc _).own ⟨wr.heap.size + 1 + 1 + 1 + 1 + 1 + 1, 0, none⟩ 1 1 [.string ⟨#[78, lower k]⟩, .int .i64 7, .string ⟨#[]⟩, .slice (some ⟨wr.heap.size + 1 + 1, 0, none⟩) 1 1, .slice (some ⟨wr.heap.size + 1 + 1 + 1, 0, none⟩) 1 1] rfl rfl (cells_atZ _ _ _ _ (by simp)) (one5 (n := [78, lower k])) (by have := HUL.out; unfold maxLen; omega) (by have := HUL.out; omega) (by simp; omega) ?_); intro v' w3 hown' hgrow hfr; have hn := (by unfold ringT; rw [if_neg hka]; first | done | rfl : ringT n a 1 k = .mk 7 [] [[120]] [.mk 9 [78, lower ((k + 1) % n)] [] []]); obtain ⟨hg3, hst⟩ := GRow.snoc (n := [78, lower k]) (H.out.row.below (by repeat first | exact Below.refl _ _ | refine Below.alloc ?_ (by simp <;> omega) _)) (TzV.fldF (gn := wr.heap.size + 1 + 1) (g := wr.heap.size + 1 + 1 + 1) (tn := 9) (fn := (0, 0)) (ty := 25) (fr := (0, 0)) (c := ⟨9, ⟨#[78, lower ((k + 1) % n)]⟩, none, 0, 0, none, 0, 0⟩) 7 [120] (by rw [blk_if, if_neg (by simp <;> omega), blk_if, if_neg (by simp <;> omega), blk_if, if_neg (by simp <;> omega), blk_if, if_pos (by simp)]; try rfl) (by rw [blk_if, if_neg (by simp <;> omega), blk_if, if_neg (by simp <;> omega), blk_if, if_pos (by simp)]; try rfl) (Free.new (w := wr) (by omega) (by simp <;> omega) HX.out HVS.out) (Free.new (w := wr) (by omega) (by simp <;> omega) HX.out HVS.out) (TzV.leaf _ _ 9 [78, lower ((k + 1) % n)])) hown' hgrow hfr; rw [← hn, ← ringL_succ] at hg3; have hS3 := (hgrow.block w1.heap.size (by simp; omega) (fun e => H.out.row.ne (by omega) e.symm)).trans ((Below.block (by repeat first | exact Below.refl _ _ | refine Below.alloc ?_ (by simp <;> omega) _) _ hz).trans H.out.sat); have hb3 : Below w.heap.size w w3 := Below.trans (by repeat first | exact H.out.below | refine Below.alloc ?_ (by have := H.out.below.size; simp <;> omega) _) (below_grown hgrow (fun g e => by have := (H.out.row.own.lt g e).1; omega) (by have := H.out.below.size; simp <;> omega)); obtain ⟨va, vc, rfl⟩ := own_sliceZ hown'; have hz3 := hgrow.size; simp at hz3; obtain ⟨⟨c0, c1, c2, c3, c4, c5⟩, ⟨d0, d1, d2, d3, d4, d5⟩⟩ := six_blkF hS3; have HG3 := Lib.hid hg3; have HS3 := Lib.hid hS3; have HB3 := Lib.hid hb3; clear hown' hgrow hfr hg3 hst hS3 hb3 hn))
        have hO : Only w1.heap.size w3 (w3.setCell ⟨w1.heap.size, 4, none⟩ (.slice va (us.length + 1) vc)) := (Only.refl _ _).setCell _ _
        have e3 := HB3.out.size
        have e1 := set_six4 HS3.out (.slice va (us.length + 1) vc)
        have e4 := HB3.out.trans (hO.below (by omega) (by omega))
        have e5 := HG3.out.only (b := w1.heap.size) (by simp) (by simp) hO
        have E1 := Lib.hid e1; have E4 := Lib.hid e4; have E5 := Lib.hid e5
        clear e1 e3 e4 e5 hcv1 hcv2 hct1 hct2
        go_roundw
        case rel => exact ⟨k + 1, _, _, by go_num, by omega, E1.out, E5.out, E4.out⟩
        case measure => simp [intOf]; omega
    · obtain rfl : n = k := by omega
      obtain ⟨xa, xc, rfl⟩ := h.row.cut
      have hO := put4_only wr w1.heap.size ⟨9, ⟨#[78, 97]⟩, none, 0, 0, none, 0, 0⟩
      have hs1 := put4_six h.sat ⟨9, ⟨#[78, 97]⟩, none, 0, 0, none, 0, 0⟩
      have hR1 := h.row.only (b := w1.heap.size) (by simp) (by simp) hO
      have hb1 := h.below.trans (hO.below hx1 h.below.size)
      have hi := ring_is hn7 han (by decide : 1 < 7)
      have C1 : Calls Try.prog 17 #[.agg #[.int .i64 9, .string ⟨#[78, 97]⟩, .slice none 0 0, .slice none 0 0, .slice xa (ringL n a 1 n).length xc, .slice none 0 0]] (put4 wr w1.heap.size ⟨9, ⟨#[78, 97]⟩, none, 0, 0, none, 0, 0⟩) (fun e w' => e = .returned (.int .i64 (ringE 1)) ∧ Below (put4 wr w1.heap.size ⟨9, ⟨#[78, 97]⟩, none, 0, 0, none, 0, 0⟩).heap.size (put4 wr w1.heap.size ⟨9, ⟨#[78, 97]⟩, none, 0, 0, none, 0, 0⟩) w') := Check_at ⟨zN [78, 97], ringL n a 1 n, []⟩ xc 0 (SzV.build (TzV.leaf _ _ 9 [78, 97]) hR1.nms (SgsV.nil none)) rfl hi.1 (ringL_len hn7) hi.2.1
      have C2 : ∀ W, Below (put4 wr w1.heap.size ⟨9, ⟨#[78, 97]⟩, none, 0, 0, none, 0, 0⟩).heap.size (put4 wr w1.heap.size ⟨9, ⟨#[78, 97]⟩, none, 0, 0, none, 0, 0⟩) W → Calls Try.prog 21 #[.agg #[.int .i64 9, .string ⟨#[78, 97]⟩, .slice none 0 0, .slice none 0 0, .slice xa (ringL n a 1 n).length xc, .slice none 0 0], .agg #[.int .i64 9, .string ⟨#[78, 97]⟩, .slice none 0 0, .slice none 0 0]] W (fun e w' => e = .returned (.bool (decide (ringE 1 = 0))) ∧ Below W.heap.size W w') := fun W hW => by
        have := Finite_any (Any W) ⟨zN [78, 97], ringL n a 1 n, []⟩ (zN [78, 97]) ⟨9, ⟨#[78, 97]⟩, none, 0, 0, none, 0, 0⟩ ⟨9, ⟨#[78, 97]⟩, none, 0, 0, none, 0, 0⟩ xa none us [] xc 0 W (fun _ h => h) (SzFit.of hi.1) rfl (by simp [ringL]; omega) (SzV.build (TzV.leaf _ _ 9 [78, 97]) (hR1.below hW).nms (SgsV.nil none)) (TzV.leaf _ _ 9 [78, 97])
        rw [hi.2.2] at this
        exact this
      have HC1 := Lib.hid C1; have HC2 := Lib.hid C2; have HS1 := Lib.hid hs1; have HB1 := Lib.hid hb1
      clear C1 C2 hR1 hs1 hb1 h hO hi
      go_wp2_with (first
          | (go_at_call 17; (refine HC1.out.mono ?_); rintro e w3 ⟨rfl, x3⟩; rw [show ringE 1 = 0 from rfl]; have hS3 := (x3.block _ (Array.getElem?_eq_some_iff.1 HS1.out).1).trans HS1.out; obtain ⟨⟨c0, c1, c2, c3, c4, c5⟩, _⟩ := six_blkF hS3; have HX3 := Lib.hid x3; clear hS3 x3)
          | (go_at_call 21; (refine (HC2.out _ HX3.out).mono ?_); rintro e w4 ⟨rfl, x4⟩; rw [show decide (ringE 1 = 0) = true from rfl]; have HX4 := Lib.hid x4; clear x4))
      go_ret
      exact ⟨rfl, HB1.out.trans ((HX3.out.trans (HX4.out.mono HX3.out.size)).mono HB1.out.size)⟩

set_option maxRecDepth 100000 in
set_option maxHeartbeats 30000000 in
theorem ShapeRings_2 (x at_ how : Int) (w : World) (h1 : -9223372036854775808 ≤ x) (h2 : x ≤ 9223372036854775807) (h3 : -9223372036854775808 ≤ at_) (h4 : at_ ≤ 9223372036854775807) (h5 : -9223372036854775808 ≤ how) (h6 : how ≤ 9223372036854775807) (hq : how % 7 = 2) :
    Calls Try.prog 5 #[.int .i64 x, .int .i64 at_, .int .i64 how] w fun e w' => e = .returned (.bool true) ∧ Below w.heap.size w w' := by
  obtain ⟨r, hr, hr6⟩ : ∃ r : Nat, x % 6 = r ∧ r < 6 := ⟨(x % 6).toNat, by omega, by omega⟩
  obtain ⟨n, hn⟩ : ∃ n, n = 1 + r := ⟨_, rfl⟩
  obtain ⟨a, ha, han⟩ : ∃ a : Nat, at_ % (n : Int) = a ∧ a < n := ⟨(at_ % (n : Int)).toNat, by
    have := Int.emod_nonneg at_ (show (n : Int) ≠ 0 by omega); omega, by
    have := Int.emod_nonneg at_ (show (n : Int) ≠ 0 by omega); have := Int.emod_lt_of_pos at_ (show (0 : Int) < n by omega); omega⟩
  have hn7 : n < 7 := by omega
  have hn0 : 0 < n := by omega
  have hsum : (1 : Int) + (r : Int) = (n : Int) := by omega
  have HR := Lib.hid hr; have HA := Lib.hid ha; have HQ := Lib.hid hq; clear hr ha hq hn
  obtain ⟨i0, hi, hz0, hz1, hz2⟩ := info_parts infoN
  have HI := Lib.hid hi; have HI0 := Lib.hid hz0; have HI1 := Lib.hid hz1; have HI2 := Lib.hid hz2; clear hi hz0 hz1 hz2
  go_enter Try.func5, Try.ntmps5
  go_wp2_with (go_at_call 12; (with_reducible refine (known_any _).mono ?_); rintro e w1 ⟨rfl, x1⟩; have HX1 := Lib.hid x1; clear x1)
  have hx1 := HX1.out.size
  go_wp2_with (first | (go_at_call 19; (with_reducible refine (within_is _ _ _ _ (by omega) (by omega) h1 h2 HR.out).mono ?_); rintro e w2 ⟨rfl, rfl⟩) | (go_at_call 19; (with_reducible refine (within_is _ _ _ _ (by omega) (by omega) h5 h6 HQ.out).mono ?_); rintro e w2 ⟨rfl, rfl⟩))
  have HSUM := Lib.hid hsum; clear hsum
  go_loopw [8] (fun v wr => ∃ k x us, RRel w w1.heap.size n a 2 v wr k x us) (fun v _ => n - (intOf v).toNat)
  case atStart => exact ⟨0, .slice none 0 0, [], rfl, Nat.zero_le _, by rw [blk_if, if_pos rfl], GRow.start _ _ _, HX1.out.alloc hx1 _⟩
  case round =>
    obtain ⟨k, x, us, h⟩ := hrel
    obtain rfl := h.slot
    have hk := h.le
    obtain ⟨⟨s0, s1, s2, s3, s4, s5⟩, ⟨g0, g1, g2, g3, g4, g5⟩⟩ := six_blkF h.sat
    have hz := (Array.getElem?_eq_some_iff.1 h.sat).1
    by_cases hlt : k < n
    · have hul : us.length = k := by rw [h.row.len]; simp [ringL]
      have hm0 := Int.emod_nonneg ((k : Int) + 1) (show (n : Int) ≠ 0 by omega)
      have hm1 := Int.emod_lt_of_pos ((k : Int) + 1) (show (0 : Int) < n by omega)
      have hcv1 := conv_atZ (97 + ((k : Int) + 1) % (n : Int)) (lower ((k + 1) % n)) (by rw [← lower_is _ (by have := Nat.mod_lt (k + 1) hn0; omega)]; simp)
      have hcv2 := conv_atZ (97 + (k : Int)) (lower k) (lower_is k (by omega))
      have hct1 := catN (lower ((k + 1) % n))
      have hct2 := catN (lower k)
      obtain ⟨xa, xc, rfl⟩ := h.row.cut
      have hX : ∀ y ∈ [w1.heap.size], y < wr.heap.size := fun y hy => by rw [List.mem_singleton.1 hy]; exact hz
      have hvs : ∀ v ∈ [Value.slice xa (ringL n a 2 k).length xc], ∀ g, v.ownBlock = some g → g < wr.heap.size := fun v hv g hg => by rw [List.mem_singleton.1 hv] at hg; exact (h.row.own.lt g hg).2
      have hy1 : w1.heap.size < wr.heap.size + 1 := by omega
      have hy2 : w1.heap.size < wr.heap.size + 1 + 1 := by omega
      have hy3 : w1.heap.size < wr.heap.size + 1 + 1 + 1 := by omega
      have hy4 : w1.heap.size < wr.heap.size + 1 + 1 + 1 + 1 := by omega
      have hy5 : w1.heap.size < wr.heap.size + 1 + 1 + 1 + 1 + 1 := by omega
      have hy6 : w1.heap.size < wr.heap.size + 1 + 1 + 1 + 1 + 1 + 1 := by omega
      have hy7 : w1.heap.size < wr.heap.size + 1 + 1 + 1 + 1 + 1 + 1 + 1 := by omega
      have hy8 : w1.heap.size < wr.heap.size + 1 + 1 + 1 + 1 + 1 + 1 + 1 + 1 := by omega
      have hy9 : w1.heap.size < wr.heap.size + 1 + 1 + 1 + 1 + 1 + 1 + 1 + 1 + 1 := by omega
      have H := Lib.hid h; have HUL := Lib.hid hul; have HX := Lib.hid hX; have HVS := Lib.hid hvs
      clear h hul hX hvs
      by_cases hka : k = a
      · subst hka
        go_wp2_with (first
          | (go_at_call 19; (with_reducible refine (within_is _ _ _ _ (by omega) (by omega) h3 h4 HA.out).mono ?_); rintro e w2 ⟨rfl, rfl⟩)
          | (at_builtin; (refine Sh.wpList_append_fresh rfl _ _ 26 rfl (w1.heap.size + 1) 44 i0 (.agg #[.string ⟨#[]⟩, .int .i64 0, .string ⟨#[]⟩, .slice none 0 0, .slice none 0 0]) 5 88 Try.underlying26 HI.out HI0.out HI1.out HI2.out rfl (by decide) _ us.length (us.flatMap encZ) rfl ((H.out.row.below (by repeat first | exact Below.refl _ _ | refine Below.alloc ?_ (by simp <;> omega) _)).alloc _).own ⟨wr.heap.size + 1 + 1 + 1 + 1 + 1 + 1 + 1 + 1, 0, none⟩ 1 1 [.string ⟨#[78, lower k]⟩, .int .i64 7, .string ⟨#[]⟩, .slice (some ⟨wr.heap.size + 1 + 1, 0, none⟩) 1 1, .slice (some ⟨wr.heap.size + 1 + 1 + 1 + 1 + 1 + 1, 0, none⟩) 1 1] rfl rfl (cells_atZ _ _ _ _ (by simp)) (one5 (n := [78, lower k])) (by have := HUL.out; unfold maxLen; omega) (by have := HUL.out; omega) (by simp; omega) ?_); intro v' w3 hown' hgrow hfr; have hn := (by unfold ringT; rw [if_pos rfl]; first | done | rfl : ringT n k 2 k = .mk 7 [] [[120]] [.mk 6 [] [] [.mk 9 [78, lower ((k + 1) % n)] [] []]]); obtain ⟨hg3, hst⟩ := GRow.snoc (n := [78, lower k]) (H.out.row.below (by repeat first | exact Below.refl _ _ | refine Below.alloc ?_ (by simp <;> omega) _)) (TzV.fldF (gn := wr.heap.size + 1 + 1) (g := wr.heap.size + 1 + 1 + 1 + 1 + 1 + 1) (tn := 9) (fn := (0, 0)) (ty := 25) (fr := (0, 0)) (c := ⟨6, ⟨#[]⟩, none, 0, 0, some ⟨wr.heap.size + 1 + 1 + 1 + 1 + 1, 0, none⟩, 1, 1⟩) 7 [120] (by rw [blk_if, if_neg (by simp <;> omega), blk_if, if_neg (by simp <;> omega), blk_if, if_neg (by simp <;> omega), blk_if, if_neg (by simp <;> omega), blk_if, if_neg (by simp <;> omega), blk_if, if_pos (by simp)]; try rfl) (by rw [blk_if, if_neg (by simp <;> omega), blk_if, if_pos (by simp)]; try rfl) (Free.new (w := wr) (by omega) (by simp <;> omega) HX.out HVS.out) (Free.new (w := wr) (by omega) (by simp <;> omega) HX.out HVS.out) (TzV.kidF (g := wr.heap.size + 1 + 1 + 1 + 1 + 1) (ty := 25) (fr := (0, 0)) (c := ⟨9, ⟨#[78, lower ((k + 1) % n)]⟩, none, 0, 0, none, 0, 0⟩) 6 (by rw [blk_if, if_neg (by simp <;> omega), blk_if, if_neg (by simp <;> omega), blk_if, if_pos (by simp)]; try rfl) (Free.new (w := wr) (by omega) (by simp <;> omega) HX.out HVS.out) (TzV.leaf _ _ 9 [78, lower ((k + 1) % n)]))) hown' hgrow hfr; rw [← hn, ← ringL_succ] at hg3; have hS3 := (hgrow.block w1.heap.size (by simp; omega) (fun e => H.out.row.ne (by omega) e.symm)).trans ((Below.block (by repeat first | exact Below.refl _ _ | refine Below.alloc ?_ (by simp <;> omega) _) _ hz).trans H.out.sat); have hb3 : Below w.heap.size w w3 := Below.trans (by repeat first | exact H.out.below | refine Below.alloc ?_ (by have := H.out.below.size; simp <;> omega) _) (below_grown hgrow (fun g e => by have := (H.out.row.own.lt g e).1; omega) (by have := H.out.below.size; simp <;> omega)); obtain ⟨va, vc, rfl⟩ := own_sliceZ hown'; have hz3 := hgrow.size; simp at hz3; obtain ⟨⟨c0, c1, c2, c3, c4, c5⟩, ⟨d0, d1, d2, d3, d4, d5⟩⟩ := six_blkF hS3; have HG3 := Lib.hid hg3; have HS3 := Lib.hid hS3; have HB3 := Lib.hid hb3; clear hown' hgrow hfr hg3 hst hS3 hb3 hn))
        have hO : Only w1.heap.size w3 (w3.setCell ⟨w1.heap.size, 4, none⟩ (.slice va (us.length + 1) vc)) := (Only.refl _ _).setCell _ _
        have e3 := HB3.out.size
        have e1 := set_six4 HS3.out (.slice va (us.length + 1) vc)
        have e4 := HB3.out.trans (hO.below (by omega) (by omega))
        have e5 := HG3.out.only (b := w1.heap.size) (by simp) (by simp) hO
        have E1 := Lib.hid e1; have E4 := Lib.hid e4; have E5 := Lib.hid e5
        clear e1 e3 e4 e5 hcv1 hcv2 hct1 hct2
        go_roundw
        case rel => exact ⟨k + 1, _, _, by go_num, by omega, E1.out, E5.out, E4.out⟩
        case measure => simp [intOf]; omega
      · have hkz : ((k : Int) == (a : Int)) = false := by simp; omega
        go_wp2_with (first
          | (go_at_call 19; (with_reducible refine (within_is _ _ _ _ (by omega) (by omega) h3 h4 HA.out).mono ?_); rintro e w2 ⟨rfl, rfl⟩)
          | (at_builtin; (refine Sh.wpList_append_fresh rfl _ _ 26 rfl (w1.heap.size + 1) 44 i0 (.agg #[.string ⟨#[]⟩, .int .i64 0, .string ⟨#[]⟩, .slice none 0 0, .slice none 0 0]) 5 88 Try.underlying26 HI.out HI0.out HI1.out HI2.out rfl (by decide) _ us.length (us.flatMap encZ) rfl ((H.out.row.below (by repeat first | exact Below.refl _ _ | refine Below.alloc ?_ (by simp <;> omega) _)).alloc _).own ⟨wr.heap.size + 1 + 1 + 1 + 1 + 1 + 1, 0, none⟩ 1 1 [.string ⟨#[78, lower k]⟩, .int .i64 7, .string ⟨#[]⟩, .slice (some ⟨wr.heap.size + 1 + 1, 0, none⟩) 1 1, .slice (some ⟨wr.heap.size + 1 + 1 + 1, 0, none⟩) 1 1] rfl rfl (cells_atZ _ _ _ _ (by simp)) (one5 (n := [78, lower k])) (by have := HUL.out; unfold maxLen; omega) (by have := HUL.out; omega) (by simp; omega) ?_); intro v' w3 hown' hgrow hfr; have hn := (by unfold ringT; rw [if_neg hka]; first | done | rfl : ringT n a 2 k = .mk 7 [] [[120]] [.mk 9 [78, lower ((k + 1) % n)] [] []]); obtain ⟨hg3, hst⟩ := GRow.snoc (n := [78, lower k]) (H.out.row.below (by repeat first | exact Below.refl _ _ | refine Below.alloc ?_ (by simp <;> omega) _)) (TzV.fldF (gn := wr.heap.size + 1 + 1) (g := wr.heap.size + 1 + 1 + 1) (tn := 9) (fn := (0, 0)) (ty := 25) (fr := (0, 0)) (c := ⟨9, ⟨#[78, lower ((k + 1) % n)]⟩, none, 0, 0, none, 0, 0⟩) 7 [120] (by rw [blk_if, if_neg (by simp <;> omega), blk_if, if_neg (by simp <;> omega), blk_if, if_neg (by simp <;> omega), blk_if, if_pos (by simp)]; try rfl) (by rw [blk_if, if_neg (by simp <;> omega), blk_if, if_neg (by simp <;> omega), blk_if, if_pos (by simp)]; try rfl) (Free.new (w := wr) (by omega) (by simp <;> omega) HX.out HVS.out) (Free.new (w := wr) (by omega) (by simp <;> omega) HX.out HVS.out) (TzV.leaf _ _ 9 [78, lower ((k + 1) % n)])) hown' hgrow hfr; rw [← hn, ← ringL_succ] at hg3; have hS3 := (hgrow.block w1.heap.size (by simp; omega) (fun e => H.out.row.ne (by omega) e.symm)).trans ((Below.block (by repeat first | exact Below.refl _ _ | refine Below.alloc ?_ (by simp <;> omega) _) _ hz).trans H.out.sat); have hb3 : Below w.heap.size w w3 := Below.trans (by repeat first | exact H.out.below | refine Below.alloc ?_ (by have := H.out.below.size; simp <;> omega) _) (below_grown hgrow (fun g e => by have := (H.out.row.own.lt g e).1; omega) (by have := H.out.below.size; simp <;> omega)); obtain ⟨va, vc, rfl⟩ := own_sliceZ hown'; have hz3 := hgrow.size; simp at hz3; obtain ⟨⟨c0, c1, c2, c3, c4, c5⟩, ⟨d0, d1, d2, d3, d4, d5⟩⟩ := six_blkF hS3; have HG3 := Lib.hid hg3; have HS3 := Lib.hid hS3; have HB3 := Lib.hid hb3; clear hown' hgrow hfr hg3 hst hS3 hb3 hn))
        have hO : Only w1.heap.size w3 (w3.setCell ⟨w1.heap.size, 4, none⟩ (.slice va (us.length + 1) vc)) := (Only.refl _ _).setCell _ _
        have e3 := HB3.out.size
        have e1 := set_six4 HS3.out (.slice va (us.length + 1) vc)
        have e4 := HB3.out.trans (hO.below (by omega) (by omega))
        have e5 := HG3.out.only (b := w1.heap.size) (by simp) (by simp) hO
        have E1 := Lib.hid e1; have E4 := Lib.hid e4; have E5 := Lib.hid e5
        clear e1 e3 e4 e5 hcv1 hcv2 hct1 hct2
        go_roundw
        case rel => exact ⟨k + 1, _, _, by go_num, by omega, E1.out, E5.out, E4.out⟩
        case measure => simp [intOf]; omega
    · obtain rfl : n = k := by omega
      obtain ⟨xa, xc, rfl⟩ := h.row.cut
      have hO := put4_only wr w1.heap.size ⟨9, ⟨#[78, 97]⟩, none, 0, 0, none, 0, 0⟩
      have hs1 := put4_six h.sat ⟨9, ⟨#[78, 97]⟩, none, 0, 0, none, 0, 0⟩
      have hR1 := h.row.only (b := w1.heap.size) (by simp) (by simp) hO
      have hb1 := h.below.trans (hO.below hx1 h.below.size)
      have hi := ring_is hn7 han (by decide : 2 < 7)
      have C1 : Calls Try.prog 17 #[.agg #[.int .i64 9, .string ⟨#[78, 97]⟩, .slice none 0 0, .slice none 0 0, .slice xa (ringL n a 2 n).length xc, .slice none 0 0]] (put4 wr w1.heap.size ⟨9, ⟨#[78, 97]⟩, none, 0, 0, none, 0, 0⟩) (fun e w' => e = .returned (.int .i64 (ringE 2)) ∧ Below (put4 wr w1.heap.size ⟨9, ⟨#[78, 97]⟩, none, 0, 0, none, 0, 0⟩).heap.size (put4 wr w1.heap.size ⟨9, ⟨#[78, 97]⟩, none, 0, 0, none, 0, 0⟩) w') := Check_at ⟨zN [78, 97], ringL n a 2 n, []⟩ xc 0 (SzV.build (TzV.leaf _ _ 9 [78, 97]) hR1.nms (SgsV.nil none)) rfl hi.1 (ringL_len hn7) hi.2.1
      have C2 : ∀ W, Below (put4 wr w1.heap.size ⟨9, ⟨#[78, 97]⟩, none, 0, 0, none, 0, 0⟩).heap.size (put4 wr w1.heap.size ⟨9, ⟨#[78, 97]⟩, none, 0, 0, none, 0, 0⟩) W → Calls Try.prog 21 #[.agg #[.int .i64 9, .string ⟨#[78, 97]⟩, .slice none 0 0, .slice none 0 0, .slice xa (ringL n a 2 n).length xc, .slice none 0 0], .agg #[.int .i64 9, .string ⟨#[78, 97]⟩, .slice none 0 0, .slice none 0 0]] W (fun e w' => e = .returned (.bool (decide (ringE 2 = 0))) ∧ Below W.heap.size W w') := fun W hW => by
        have := Finite_any (Any W) ⟨zN [78, 97], ringL n a 2 n, []⟩ (zN [78, 97]) ⟨9, ⟨#[78, 97]⟩, none, 0, 0, none, 0, 0⟩ ⟨9, ⟨#[78, 97]⟩, none, 0, 0, none, 0, 0⟩ xa none us [] xc 0 W (fun _ h => h) (SzFit.of hi.1) rfl (by simp [ringL]; omega) (SzV.build (TzV.leaf _ _ 9 [78, 97]) (hR1.below hW).nms (SgsV.nil none)) (TzV.leaf _ _ 9 [78, 97])
        rw [hi.2.2] at this
        exact this
      have HC1 := Lib.hid C1; have HC2 := Lib.hid C2; have HS1 := Lib.hid hs1; have HB1 := Lib.hid hb1
      clear C1 C2 hR1 hs1 hb1 h hO hi
      go_wp2_with (first
          | (go_at_call 17; (refine HC1.out.mono ?_); rintro e w3 ⟨rfl, x3⟩; rw [show ringE 2 = 0 from rfl]; have hS3 := (x3.block _ (Array.getElem?_eq_some_iff.1 HS1.out).1).trans HS1.out; obtain ⟨⟨c0, c1, c2, c3, c4, c5⟩, _⟩ := six_blkF hS3; have HX3 := Lib.hid x3; clear hS3 x3)
          | (go_at_call 21; (refine (HC2.out _ HX3.out).mono ?_); rintro e w4 ⟨rfl, x4⟩; rw [show decide (ringE 2 = 0) = true from rfl]; have HX4 := Lib.hid x4; clear x4))
      go_ret
      exact ⟨rfl, HB1.out.trans ((HX3.out.trans (HX4.out.mono HX3.out.size)).mono HB1.out.size)⟩

set_option maxRecDepth 100000 in
set_option maxHeartbeats 30000000 in
theorem ShapeRings_3 (x at_ how : Int) (w : World) (h1 : -9223372036854775808 ≤ x) (h2 : x ≤ 9223372036854775807) (h3 : -9223372036854775808 ≤ at_) (h4 : at_ ≤ 9223372036854775807) (h5 : -9223372036854775808 ≤ how) (h6 : how ≤ 9223372036854775807) (hq : how % 7 = 3) :
    Calls Try.prog 5 #[.int .i64 x, .int .i64 at_, .int .i64 how] w fun e w' => e = .returned (.bool true) ∧ Below w.heap.size w w' := by
  obtain ⟨r, hr, hr6⟩ : ∃ r : Nat, x % 6 = r ∧ r < 6 := ⟨(x % 6).toNat, by omega, by omega⟩
  obtain ⟨n, hn⟩ : ∃ n, n = 1 + r := ⟨_, rfl⟩
  obtain ⟨a, ha, han⟩ : ∃ a : Nat, at_ % (n : Int) = a ∧ a < n := ⟨(at_ % (n : Int)).toNat, by
    have := Int.emod_nonneg at_ (show (n : Int) ≠ 0 by omega); omega, by
    have := Int.emod_nonneg at_ (show (n : Int) ≠ 0 by omega); have := Int.emod_lt_of_pos at_ (show (0 : Int) < n by omega); omega⟩
  have hn7 : n < 7 := by omega
  have hn0 : 0 < n := by omega
  have hsum : (1 : Int) + (r : Int) = (n : Int) := by omega
  have HR := Lib.hid hr; have HA := Lib.hid ha; have HQ := Lib.hid hq; clear hr ha hq hn
  obtain ⟨i0, hi, hz0, hz1, hz2⟩ := info_parts infoN
  have HI := Lib.hid hi; have HI0 := Lib.hid hz0; have HI1 := Lib.hid hz1; have HI2 := Lib.hid hz2; clear hi hz0 hz1 hz2
  go_enter Try.func5, Try.ntmps5
  go_wp2_with (go_at_call 12; (with_reducible refine (known_any _).mono ?_); rintro e w1 ⟨rfl, x1⟩; have HX1 := Lib.hid x1; clear x1)
  have hx1 := HX1.out.size
  go_wp2_with (first | (go_at_call 19; (with_reducible refine (within_is _ _ _ _ (by omega) (by omega) h1 h2 HR.out).mono ?_); rintro e w2 ⟨rfl, rfl⟩) | (go_at_call 19; (with_reducible refine (within_is _ _ _ _ (by omega) (by omega) h5 h6 HQ.out).mono ?_); rintro e w2 ⟨rfl, rfl⟩))
  have HSUM := Lib.hid hsum; clear hsum
  go_loopw [8] (fun v wr => ∃ k x us, RRel w w1.heap.size n a 3 v wr k x us) (fun v _ => n - (intOf v).toNat)
  case atStart => exact ⟨0, .slice none 0 0, [], rfl, Nat.zero_le _, by rw [blk_if, if_pos rfl], GRow.start _ _ _, HX1.out.alloc hx1 _⟩
  case round =>
    obtain ⟨k, x, us, h⟩ := hrel
    obtain rfl := h.slot
    have hk := h.le
    obtain ⟨⟨s0, s1, s2, s3, s4, s5⟩, ⟨g0, g1, g2, g3, g4, g5⟩⟩ := six_blkF h.sat
    have hz := (Array.getElem?_eq_some_iff.1 h.sat).1
    by_cases hlt : k < n
    · have hul : us.length = k := by rw [h.row.len]; simp [ringL]
      have hm0 := Int.emod_nonneg ((k : Int) + 1) (show (n : Int) ≠ 0 by omega)
      have hm1 := Int.emod_lt_of_pos ((k : Int) + 1) (show (0 : Int) < n by omega)
      have hcv1 := conv_atZ (97 + ((k : Int) + 1) % (n : Int)) (lower ((k + 1) % n)) (by rw [← lower_is _ (by have := Nat.mod_lt (k + 1) hn0; omega)]; simp)
      have hcv2 := conv_atZ (97 + (k : Int)) (lower k) (lower_is k (by omega))
      have hct1 := catN (lower ((k + 1) % n))
      have hct2 := catN (lower k)
      obtain ⟨xa, xc, rfl⟩ := h.row.cut
      have hX : ∀ y ∈ [w1.heap.size], y < wr.heap.size := fun y hy => by rw [List.mem_singleton.1 hy]; exact hz
      have hvs : ∀ v ∈ [Value.slice xa (ringL n a 3 k).length xc], ∀ g, v.ownBlock = some g → g < wr.heap.size := fun v hv g hg => by rw [List.mem_singleton.1 hv] at hg; exact (h.row.own.lt g hg).2
      have hy1 : w1.heap.size < wr.heap.size + 1 := by omega
      have hy2 : w1.heap.size < wr.heap.size + 1 + 1 := by omega
      have hy3 : w1.heap.size < wr.heap.size + 1 + 1 + 1 := by omega
      have hy4 : w1.heap.size < wr.heap.size + 1 + 1 + 1 + 1 := by omega
      have hy5 : w1.heap.size < wr.heap.size + 1 + 1 + 1 + 1 + 1 := by omega
      have hy6 : w1.heap.size < wr.heap.size + 1 + 1 + 1 + 1 + 1 + 1 := by omega
      have hy7 : w1.heap.size < wr.heap.size + 1 + 1 + 1 + 1 + 1 + 1 + 1 := by omega
      have hy8 : w1.heap.size < wr.heap.size + 1 + 1 + 1 + 1 + 1 + 1 + 1 + 1 := by omega
      have hy9 : w1.heap.size < wr.heap.size + 1 + 1 + 1 + 1 + 1 + 1 + 1 + 1 + 1 := by omega
      have H := Lib.hid h; have HUL := Lib.hid hul; have HX := Lib.hid hX; have HVS := Lib.hid hvs
      clear h hul hX hvs
      by_cases hka : k = a
      · subst hka
        go_wp2_with (first
          | (go_at_call 19; (with_reducible refine (within_is _ _ _ _ (by omega) (by omega) h3 h4 HA.out).mono ?_); rintro e w2 ⟨rfl, rfl⟩)
          | (at_builtin; (refine Sh.wpList_append_fresh rfl _ _ 26 rfl (w1.heap.size + 1) 44 i0 (.agg #[.string ⟨#[]⟩, .int .i64 0, .string ⟨#[]⟩, .slice none 0 0, .slice none 0 0]) 5 88 Try.underlying26 HI.out HI0.out HI1.out HI2.out rfl (by decide) _ us.length (us.flatMap encZ) rfl ((H.out.row.below (by repeat first | exact Below.refl _ _ | refine Below.alloc ?_ (by simp <;> omega) _)).alloc _).own ⟨wr.heap.size + 1 + 1 + 1 + 1 + 1 + 1 + 1 + 1, 0, none⟩ 1 1 [.string ⟨#[78, lower k]⟩, .int .i64 8, .string ⟨#[]⟩, .slice (some ⟨wr.heap.size + 1 + 1 + 1 + 1 + 1, 0, none⟩) 2 2, .slice (some ⟨wr.heap.size + 1 + 1 + 1 + 1 + 1 + 1, 0, none⟩) 2 2] rfl rfl (cells_atZ _ _ _ _ (by simp)) (one5 (n := [78, lower k])) (by have := HUL.out; unfold maxLen; omega) (by have := HUL.out; omega) (by simp; omega) ?_); intro v' w3 hown' hgrow hfr; have hn := (by unfold ringT; rw [if_pos rfl]; first | done | rfl : ringT n k 3 k = .mk 8 [] [[120], [121]] [.mk 9 [78, lower ((k + 1) % n)] [] [], .mk 2 [] [] []]); obtain ⟨hg3, hst⟩ := GRow.snoc (n := [78, lower k]) (H.out.row.below (by repeat first | exact Below.refl _ _ | refine Below.alloc ?_ (by simp <;> omega) _)) (TzV.twoF (gn := wr.heap.size + 1 + 1 + 1 + 1 + 1) (g := wr.heap.size + 1 + 1 + 1 + 1 + 1 + 1) (tn := 9) (fn := (0, 0)) (ty := 25) (fr := (0, 0)) (c := ⟨9, ⟨#[78, lower ((k + 1) % n)]⟩, none, 0, 0, none, 0, 0⟩) (d := cI) 8 [120] [121] (by rw [blk_if, if_neg (by simp <;> omega), blk_if, if_neg (by simp <;> omega), blk_if, if_pos (by simp)]; try rfl) (by rw [blk_if, if_neg (by simp <;> omega), blk_if, if_pos (by simp)]; try rfl) (Free.new (w := wr) (by omega) (by simp <;> omega) HX.out HVS.out) (Free.new (w := wr) (by omega) (by simp <;> omega) HX.out HVS.out) (TzV.leaf _ _ 9 [78, lower ((k + 1) % n)]) (TzV.leaf _ _ 2 [])) hown' hgrow hfr; rw [← hn, ← ringL_succ] at hg3; have hS3 := (hgrow.block w1.heap.size (by simp; omega) (fun e => H.out.row.ne (by omega) e.symm)).trans ((Below.block (by repeat first | exact Below.refl _ _ | refine Below.alloc ?_ (by simp <;> omega) _) _ hz).trans H.out.sat); have hb3 : Below w.heap.size w w3 := Below.trans (by repeat first | exact H.out.below | refine Below.alloc ?_ (by have := H.out.below.size; simp <;> omega) _) (below_grown hgrow (fun g e => by have := (H.out.row.own.lt g e).1; omega) (by have := H.out.below.size; simp <;> omega)); obtain ⟨va, vc, rfl⟩ := own_sliceZ hown'; have hz3 := hgrow.size; simp at hz3; obtain ⟨⟨c0, c1, c2, c3, c4, c5⟩, ⟨d0, d1, d2, d3, d4, d5⟩⟩ := six_blkF hS3; have HG3 := Lib.hid hg3; have HS3 := Lib.hid hS3; have HB3 := Lib.hid hb3; clear hown' hgrow hfr hg3 hst hS3 hb3 hn))
        have hO : Only w1.heap.size w3 (w3.setCell ⟨w1.heap.size, 4, none⟩ (.slice va (us.length + 1) vc)) := (Only.refl _ _).setCell _ _
        have e3 := HB3.out.size
        have e1 := set_six4 HS3.out (.slice va (us.length + 1) vc)
        have e4 := HB3.out.trans (hO.below (by omega) (by omega))
        have e5 := HG3.out.only (b := w1.heap.size) (by simp) (by simp) hO
        have E1 := Lib.hid e1; have E4 := Lib.hid e4; have E5 := Lib.hid e5
        clear e1 e3 e4 e5 hcv1 hcv2 hct1 hct2
        go_roundw
        case rel => exact ⟨k + 1, _, _, by go_num, by omega, E1.out, E5.out, E4.out⟩
        case measure => simp [intOf]; omega
      · have hkz : ((k : Int) == (a : Int)) = false := by simp; omega
        go_wp2_with (first
          | (go_at_call 19; (with_reducible refine (within_is _ _ _ _ (by omega) (by omega) h3 h4 HA.out).mono ?_); rintro e w2 ⟨rfl, rfl⟩)
          | (at_builtin; (refine Sh.wpList_append_fresh rfl _ _ 26 rfl (w1.heap.size + 1) 44 i0 (.agg #[.string ⟨#[]⟩, .int .i64 0, .string ⟨#[]⟩, .slice none 0 0, .slice none 0 0]) 5 88 Try.underlying26 HI.out HI0.out HI1.out HI2.out rfl (by decide) _ us.length (us.flatMap encZ) rfl ((H.out.row.below (by repeat first | exact Below.refl _ _ | refine Below.alloc ?_ (by simp <;> omega) _)).alloc _).own ⟨wr.heap.size + 1 + 1 + 1 + 1 + 1 + 1, 0, none⟩ 1 1 [.string ⟨#[78, lower k]⟩, .int .i64 7, .string ⟨#[]⟩, .slice (some ⟨wr.heap.size + 1 + 1, 0, none⟩) 1 1, .slice (some ⟨wr.heap.size + 1 + 1 + 1, 0, none⟩) 1 1] rfl rfl (cells_atZ _ _ _ _ (by simp)) (one5 (n := [78, lower k])) (by have := HUL.out; unfold maxLen; omega) (by have := HUL.out; omega) (by simp; omega) ?_); intro v' w3 hown' hgrow hfr; have hn := (by unfold ringT; rw [if_neg hka]; first | done | rfl : ringT n a 3 k = .mk 7 [] [[120]] [.mk 9 [78, lower ((k + 1) % n)] [] []]); obtain ⟨hg3, hst⟩ := GRow.snoc (n := [78, lower k]) (H.out.row.below (by repeat first | exact Below.refl _ _ | refine Below.alloc ?_ (by simp <;> omega) _)) (TzV.fldF (gn := wr.heap.size + 1 + 1) (g := wr.heap.size + 1 + 1 + 1) (tn := 9) (fn := (0, 0)) (ty := 25) (fr := (0, 0)) (c := ⟨9, ⟨#[78, lower ((k + 1) % n)]⟩, none, 0, 0, none, 0, 0⟩) 7 [120] (by rw [blk_if, if_neg (by simp <;> omega), blk_if, if_neg (by simp <;> omega), blk_if, if_neg (by simp <;> omega), blk_if, if_pos (by simp)]; try rfl) (by rw [blk_if, if_neg (by simp <;> omega), blk_if, if_neg (by simp <;> omega), blk_if, if_pos (by simp)]; try rfl) (Free.new (w := wr) (by omega) (by simp <;> omega) HX.out HVS.out) (Free.new (w := wr) (by omega) (by simp <;> omega) HX.out HVS.out) (TzV.leaf _ _ 9 [78, lower ((k + 1) % n)])) hown' hgrow hfr; rw [← hn, ← ringL_succ] at hg3; have hS3 := (hgrow.block w1.heap.size (by simp; omega) (fun e => H.out.row.ne (by omega) e.symm)).trans ((Below.block (by repeat first | exact Below.refl _ _ | refine Below.alloc ?_ (by simp <;> omega) _) _ hz).trans H.out.sat); have hb3 : Below w.heap.size w w3 := Below.trans (by repeat first | exact H.out.below | refine Below.alloc ?_ (by have := H.out.below.size; simp <;> omega) _) (below_grown hgrow (fun g e => by have := (H.out.row.own.lt g e).1; omega) (by have := H.out.below.size; simp <;> omega)); obtain ⟨va, vc, rfl⟩ := own_sliceZ hown'; have hz3 := hgrow.size; simp at hz3; obtain ⟨⟨c0, c1, c2, c3, c4, c5⟩, ⟨d0, d1, d2, d3, d4, d5⟩⟩ := six_blkF hS3; have HG3 := Lib.hid hg3; have HS3 := Lib.hid hS3; have HB3 := Lib.hid hb3; clear hown' hgrow hfr hg3 hst hS3 hb3 hn))
        have hO : Only w1.heap.size w3 (w3.setCell ⟨w1.heap.size, 4, none⟩ (.slice va (us.length + 1) vc)) := (Only.refl _ _).setCell _ _
        have e3 := HB3.out.size
        have e1 := set_six4 HS3.out (.slice va (us.length + 1) vc)
        have e4 := HB3.out.trans (hO.below (by omega) (by omega))
        have e5 := HG3.out.only (b := w1.heap.size) (by simp) (by simp) hO
        have E1 := Lib.hid e1; have E4 := Lib.hid e4; have E5 := Lib.hid e5
        clear e1 e3 e4 e5 hcv1 hcv2 hct1 hct2
        go_roundw
        case rel => exact ⟨k + 1, _, _, by go_num, by omega, E1.out, E5.out, E4.out⟩
        case measure => simp [intOf]; omega
    · obtain rfl : n = k := by omega
      obtain ⟨xa, xc, rfl⟩ := h.row.cut
      have hO := put4_only wr w1.heap.size ⟨9, ⟨#[78, 97]⟩, none, 0, 0, none, 0, 0⟩
      have hs1 := put4_six h.sat ⟨9, ⟨#[78, 97]⟩, none, 0, 0, none, 0, 0⟩
      have hR1 := h.row.only (b := w1.heap.size) (by simp) (by simp) hO
      have hb1 := h.below.trans (hO.below hx1 h.below.size)
      have hi := ring_is hn7 han (by decide : 3 < 7)
      have C1 : Calls Try.prog 17 #[.agg #[.int .i64 9, .string ⟨#[78, 97]⟩, .slice none 0 0, .slice none 0 0, .slice xa (ringL n a 3 n).length xc, .slice none 0 0]] (put4 wr w1.heap.size ⟨9, ⟨#[78, 97]⟩, none, 0, 0, none, 0, 0⟩) (fun e w' => e = .returned (.int .i64 (ringE 3)) ∧ Below (put4 wr w1.heap.size ⟨9, ⟨#[78, 97]⟩, none, 0, 0, none, 0, 0⟩).heap.size (put4 wr w1.heap.size ⟨9, ⟨#[78, 97]⟩, none, 0, 0, none, 0, 0⟩) w') := Check_at ⟨zN [78, 97], ringL n a 3 n, []⟩ xc 0 (SzV.build (TzV.leaf _ _ 9 [78, 97]) hR1.nms (SgsV.nil none)) rfl hi.1 (ringL_len hn7) hi.2.1
      have C2 : ∀ W, Below (put4 wr w1.heap.size ⟨9, ⟨#[78, 97]⟩, none, 0, 0, none, 0, 0⟩).heap.size (put4 wr w1.heap.size ⟨9, ⟨#[78, 97]⟩, none, 0, 0, none, 0, 0⟩) W → Calls Try.prog 21 #[.agg #[.int .i64 9, .string ⟨#[78, 97]⟩, .slice none 0 0, .slice none 0 0, .slice xa (ringL n a 3 n).length xc, .slice none 0 0], .agg #[.int .i64 9, .string ⟨#[78, 97]⟩, .slice none 0 0, .slice none 0 0]] W (fun e w' => e = .returned (.bool (decide (ringE 3 = 0))) ∧ Below W.heap.size W w') := fun W hW => by
        have := Finite_any (Any W) ⟨zN [78, 97], ringL n a 3 n, []⟩ (zN [78, 97]) ⟨9, ⟨#[78, 97]⟩, none, 0, 0, none, 0, 0⟩ ⟨9, ⟨#[78, 97]⟩, none, 0, 0, none, 0, 0⟩ xa none us [] xc 0 W (fun _ h => h) (SzFit.of hi.1) rfl (by simp [ringL]; omega) (SzV.build (TzV.leaf _ _ 9 [78, 97]) (hR1.below hW).nms (SgsV.nil none)) (TzV.leaf _ _ 9 [78, 97])
        rw [hi.2.2] at this
        exact this
      have HC1 := Lib.hid C1; have HC2 := Lib.hid C2; have HS1 := Lib.hid hs1; have HB1 := Lib.hid hb1
      clear C1 C2 hR1 hs1 hb1 h hO hi
      go_wp2_with (first
          | (go_at_call 17; (refine HC1.out.mono ?_); rintro e w3 ⟨rfl, x3⟩; rw [show ringE 3 = 0 from rfl]; have hS3 := (x3.block _ (Array.getElem?_eq_some_iff.1 HS1.out).1).trans HS1.out; obtain ⟨⟨c0, c1, c2, c3, c4, c5⟩, _⟩ := six_blkF hS3; have HX3 := Lib.hid x3; clear hS3 x3)
          | (go_at_call 21; (refine (HC2.out _ HX3.out).mono ?_); rintro e w4 ⟨rfl, x4⟩; rw [show decide (ringE 3 = 0) = true from rfl]; have HX4 := Lib.hid x4; clear x4))
      go_ret
      exact ⟨rfl, HB1.out.trans ((HX3.out.trans (HX4.out.mono HX3.out.size)).mono HB1.out.size)⟩

end Sp
end Go.Proofs.Ytnnnjonodnkccaa
