/- ShapeBounds' walk: parameters. -/
import Derived.Test.YtnnnjonodnkccaaZBndB
namespace Go.Proofs.Ytnnnjonodnkccaa
open Go.RowKit
namespace Sp
open Sc

def parS (n : Nat) : Sz := ⟨zI, [], [⟨[102], List.replicate n zI, zI⟩]⟩
theorem bnd2_all : (List.range 4).all (fun m => fitS (parS (3 + m)) && decide ((checkZ (parS (3 + m))).map Int.ofNat = some (if m ≤ 1 then 0 else 18))) = true := by kernel_rfl
theorem bnd2_is {m : Nat} (h : m < 4) : fitS (parS (3 + m)) = true ∧ (checkZ (parS (3 + m))).map Int.ofNat = some (if m ≤ 1 then 0 else 18) := by
  have := List.all_eq_true.1 bnd2_all m (List.mem_range.2 h)
  simpa only [Bool.and_eq_true, decide_eq_true_eq] using this
structure BRel2 (w0 : World) (sb m : Nat) (sv : Value) (wr : World) (k : Nat) (v : Value) (us : List C4) : Prop where
  slot : sv = .int .i64 k
  le : k ≤ 3 + m
  sat : wr.heap[sb]? = some (.cells #[.int .i64 2, .string ⟨#[]⟩, .slice none 0 0, .slice none 0 0, .slice none 0 0, .slice none 0 0] 29 (0, 0))
  fat : wr.heap[sb + 1 + 1]? = some (.cells #[.string ⟨#[102]⟩, v, .int .i64 2, .string ⟨#[]⟩, .slice none 0 0, .slice none 0 0] 46 (0, 0))
  row : TRow wr (sb + 1 + 1 + 1) [sb, sb + 1 + 1] [v] v (List.replicate k zI) us
  below : Below w0.heap.size w0 wr

set_option maxRecDepth 100000 in
set_option maxHeartbeats 8000000 in
theorem ShapeBounds_2 (which n : Int) (w : World) (h1 : -9223372036854775808 ≤ which) (h2 : which ≤ 9223372036854775807) (h3 : -9223372036854775808 ≤ n) (h4 : n ≤ 9223372036854775807) (hq : which % 5 = 2) :
    Calls Try.prog 6 #[.int .i64 which, .int .i64 n] w fun e w' => e = .returned (.bool true) ∧ Below w.heap.size w w' := by
  obtain ⟨m, hm, hm4⟩ : ∃ m : Nat, n % 4 = m ∧ m < 4 := ⟨(n % 4).toNat, by omega, by omega⟩
  have HM := Lib.hid hm; have HQ := Lib.hid hq; clear hm hq
  obtain ⟨i0, hi, hz0, hz1, hz2⟩ := info_parts infoTz
  have HI := Lib.hid hi; have HI0 := Lib.hid hz0; have HI1 := Lib.hid hz1; have HI2 := Lib.hid hz2; clear hi hz0 hz1 hz2
  go_enter Try.func6, Try.ntmps6
  go_wp2_with (go_at_call 12; (with_reducible refine (known_any _).mono ?_); rintro e w1 ⟨rfl, x1⟩; have HX1 := Lib.hid x1; clear x1)
  have hx1 := HX1.out.size
  go_wp2_with (first | (go_at_call 19; (with_reducible refine (within_is _ _ _ _ (by omega) (by omega) h3 h4 HM.out).mono ?_); rintro e w2 ⟨rfl, rfl⟩) | (go_at_call 19; (with_reducible refine (within_is _ _ _ _ (by omega) (by omega) h1 h2 HQ.out).mono ?_); rintro e w2 ⟨rfl, rfl⟩))
  go_loopw [11] (fun v wr => ∃ k x us, BRel2 w w1.heap.size m v wr k x us) (fun v _ => 3 + m - (intOf v).toNat)
  case atStart => exact ⟨0, .slice none 0 0, [], rfl, Nat.zero_le _, by rw [blk_if, if_neg (by simp; omega), blk_if, if_neg (by simp), blk_if, if_pos rfl], by rw [blk_if, if_pos (by simp)], TRow.start _ _ _ _, ((HX1.out.alloc hx1 _).alloc (by simp; omega) _).alloc (by simp; omega) _⟩
  case round =>
    obtain ⟨k, x, us, h⟩ := hrel
    obtain rfl := h.slot
    have hk := h.le
    obtain ⟨⟨s0, s1, s2, s3, s4, s5⟩, ⟨g0, g1, g2, g3, g4, g5⟩⟩ := six_blkF h.sat
    obtain ⟨⟨t0, t1, t2, t3, t4, t5⟩, ⟨f0, f1, f2, f3, f4, f5⟩⟩ := six_blkF h.fat
    have hz := (Array.getElem?_eq_some_iff.1 h.fat).1
    have hz1 : w1.heap.size + 1 < wr.heap.size := by omega
    have hz0 : w1.heap.size < wr.heap.size := by omega
    obtain ⟨xa, xc, hx⟩ := h.row.cut
    rw [List.length_replicate] at hx
    subst hx
    by_cases hlt : k < 3 + m
    · have hul : us.length = k := by rw [h.row.len]; simp
      have H := Lib.hid h; have HUL := Lib.hid hul
      clear h hul
      go_wp2_with (at_builtin; (refine Sh.wpList_append_fresh rfl _ _ 23 rfl (w1.heap.size + 1 + 1 + 1) 25 i0 (.agg #[.int .i64 0, .string ⟨#[]⟩, .slice none 0 0, .slice none 0 0]) 4 72 Try.underlying23 HI.out HI0.out HI1.out HI2.out rfl (by decide) _ us.length (us.flatMap C4.cells) rfl (H.out.row.alloc _).own ⟨wr.heap.size, 0, none⟩ 1 1 [.int .i64 2, .string ⟨#[]⟩, .slice none 0 0, .slice none 0 0] rfl rfl (cells_newZ _ _ _) (C4.one cI) (by have := HUL.out; unfold maxLen; omega) (by have := HUL.out; omega) (by simp; omega) ?_); intro v' w3 hown' hgrow hfr; have hst := (Step.alloc (X := [w1.heap.size, w1.heap.size + 1 + 1]) (vs := [.slice xa k xc]) wr _).trans (Step.append hgrow (List.mem_singleton.2 rfl) hfr (vs' := [v']) (fun u hu => .inl (List.mem_singleton.1 hu))); have hg3 := H.out.row.snoc (t := zI) (c := cI) (TzV.leaf _ _ 2 []) hown' hst; have hS3 := (hgrow.block w1.heap.size (by simp; omega) (fun e => H.out.row.ne (by omega) e.symm)).trans (blk_allocZ H.out.sat _); have hF3 := (hgrow.block (w1.heap.size + 1 + 1) (by simp; omega) (fun e => H.out.row.ne (by omega) e.symm)).trans (blk_allocZ H.out.fat _); have hb3 : Below w.heap.size w w3 := (H.out.below.alloc H.out.below.size _).trans (below_grown hgrow (fun g e => by have := (H.out.row.own.lt g e).1; omega) (by have := H.out.below.size; simp; omega)); obtain ⟨va, vc, rfl⟩ := own_sliceZ hown'; have hz3 := hgrow.size; simp at hz3; obtain ⟨⟨c0, c1, c2, c3, c4, c5⟩, ⟨d0, d1, d2, d3, d4, d5⟩⟩ := six_blkF hF3; have HG3 := Lib.hid hg3; have HS3 := Lib.hid hS3; have HF3 := Lib.hid hF3; have HB3 := Lib.hid hb3; clear hown' hgrow hfr hg3 hst hS3 hF3 hb3)
      have hO : Only (w1.heap.size + 1 + 1) w3 (w3.setCell ⟨w1.heap.size + 1 + 1, 1, none⟩ (.slice va (us.length + 1) vc)) := (Only.refl _ _).setCell _ _
      have e1 := hO.blk HS3.out (by omega)
      have e2 := set_six1 HF3.out (.slice va (us.length + 1) vc)
      have e3 := HB3.out.size
      have e4 := HB3.out.trans (hO.below (by omega) e3)
      have e5 := HG3.out.only (b := w1.heap.size + 1 + 1) (by simp) (by simp; omega) hO
      rw [show List.replicate k zI ++ [zI] = List.replicate (k + 1) zI from (List.replicate_succ' ..).symm] at e5
      have E1 := Lib.hid e1; have E2 := Lib.hid e2; have E4 := Lib.hid e4; have E5 := Lib.hid e5
      clear e1 e2 e3 e4 e5
      go_roundw
      case rel => exact ⟨k + 1, _, _, by go_num, by omega, E1.out, E2.out, E5.out, E4.out⟩
      case measure => simp [intOf]; omega
    · obtain rfl : k = 3 + m := by omega
      have hi := bnd2_is hm4
      obtain ⟨W2, hW2⟩ : ∃ W2, W2 = (wr.setCell ⟨w1.heap.size, 5, none⟩ (.slice (some ⟨wr.heap.size, 0, none⟩) 1 1)).alloc (.cells #[.string ⟨#[102]⟩, .slice xa (3 + m) xc, .int .i64 2, .string ⟨#[]⟩, .slice none 0 0, .slice none 0 0] 46) := ⟨_, rfl⟩
      have hO : Only w1.heap.size wr (wr.setCell ⟨w1.heap.size, 5, none⟩ (.slice (some ⟨wr.heap.size, 0, none⟩) 1 1)) := (Only.refl _ _).setCell _ _
      have hR2 : TRow W2 (w1.heap.size + 1 + 1 + 1) [w1.heap.size, w1.heap.size + 1 + 1] [.slice xa (3 + m) xc] (.slice xa (3 + m) xc) (List.replicate (3 + m) zI) us := by rw [hW2]; exact (h.row.only (b := w1.heap.size) (by simp) (by simp; omega) hO).alloc _
      have hG2 : W2.heap[wr.heap.size]? = some (.cells #[.string ⟨#[102]⟩, .slice xa (3 + m) xc, .int .i64 2, .string ⟨#[]⟩, .slice none 0 0, .slice none 0 0] 46 (0, 0)) := by rw [hW2, blk_if, if_pos (by simp)]
      have hB2 : Below w.heap.size w W2 := by rw [hW2]; exact (h.below.trans (hO.below hx1 h.below.size)).alloc (by have := h.below.size; simp; omega) _
      have C1 : Calls Try.prog 17 #[.agg #[.int .i64 2, .string ⟨#[]⟩, .slice none 0 0, .slice none 0 0, .slice none 0 0, .slice (some ⟨wr.heap.size, 0, none⟩) 1 1]] W2 (fun e w' => e = .returned (.int .i64 (if m ≤ 1 then 0 else 18)) ∧ Below W2.heap.size W2 w') := Check_at (parS (3 + m)) 0 1 (SzV.build (TzV.leaf _ _ 2 []) (NmsV.nil none) (SgsV.one (x := ([102], ⟨xa, (3 + m), xc, cI⟩)) hG2 ⟨rfl, by simp, ⟨us, hR2.len, hR2.row (Any W2) (fun g e => (hR2.own.lt g e).2), fun i h1 h2 => (hR2.val i h1 h2).any⟩, TzV.leaf _ _ 2 []⟩)) rfl hi.1 rfl hi.2
      have HC1 := Lib.hid C1; have HB := Lib.hid hB2; have HW2 := Lib.hid hW2
      clear C1 h hi hR2 hG2 hB2 hW2 hO
      go_wp2_with fail
      rw [← HW2.out]
      refine HC1.out.mono ?_
      rintro e w3 ⟨rfl, x3⟩
      have HX3 := Lib.hid x3; clear x3
      obtain rfl | rfl | rfl | rfl : m = 0 ∨ m = 1 ∨ m = 2 ∨ m = 3 := by omega
      all_goals
        go_wp2
        go_ret
        exact ⟨rfl, HB.out.trans (HX3.out.mono HB.out.size)⟩
end Sp
end Go.Proofs.Ytnnnjonodnkccaa
