/- ShapeBounds' walk: how deep. -/
import Derived.Test.YtnnnjonodnkccaaZBndC
import Derived.Test.YtnnnjonodnkccaaZOpts
namespace Go.Proofs.Ytnnnjonodnkccaa
open Go.RowKit
namespace Sp
open Sc

def lstT : Nat → Tz
  | 0 => zI
  | k + 1 => .mk 4 [] [] [lstT k]
theorem bnd4_all : (List.range 4).all (fun m => fitS ⟨lstT (10 + m), [], []⟩ && decide ((checkZ ⟨lstT (10 + m), [], []⟩).map Int.ofNat = some (if m ≤ 1 then 0 else 13))) = true := by kernel_rfl
theorem bnd4_is {m : Nat} (h : m < 4) : fitS ⟨lstT (10 + m), [], []⟩ = true ∧ (checkZ ⟨lstT (10 + m), [], []⟩).map Int.ofNat = some (if m ≤ 1 then 0 else 13) := by
  have := List.all_eq_true.1 bnd4_all m (List.mem_range.2 h)
  simpa only [Bool.and_eq_true, decide_eq_true_eq] using this
structure BRel4 (w0 : World) (sb m : Nat) (sv : Value) (wr : World) (k : Nat) (c : C4) : Prop where
  slot : sv = .int .i64 (k + 1)
  le : k ≤ 10 + m
  sat : wr.heap[sb]? = some (.cells #[.int .i64 2, .string ⟨#[]⟩, .slice none 0 0, .slice none 0 0, .slice none 0 0, .slice none 0 0] 29 (0, 0))
  tat : wr.heap[sb + 1 + 1]? = some (.cells #[.int .i64 c.k, .string c.n, .slice c.an c.ln c.cn, .slice c.ak c.lk c.ck] 25 (0, 0))
  val : TzV wr (Free wr [sb, sb + 1 + 1] []) (lstT k) c
  below : Below w0.heap.size w0 wr

set_option maxRecDepth 100000 in
set_option maxHeartbeats 8000000 in
theorem ShapeBounds_4 (which n : Int) (w : World) (h1 : -9223372036854775808 ≤ which) (h2 : which ≤ 9223372036854775807) (h3 : -9223372036854775808 ≤ n) (h4 : n ≤ 9223372036854775807) (hq : which % 5 = 4) :
    Calls Try.prog 6 #[.int .i64 which, .int .i64 n] w fun e w' => e = .returned (.bool true) ∧ Below w.heap.size w w' := by
  obtain ⟨m, hm, hm4⟩ : ∃ m : Nat, n % 4 = m ∧ m < 4 := ⟨(n % 4).toNat, by omega, by omega⟩
  have HM := Lib.hid hm; have HQ := Lib.hid hq; clear hm hq
  go_enter Try.func6, Try.ntmps6
  go_wp2_with (go_at_call 12; (with_reducible refine (known_any _).mono ?_); rintro e w1 ⟨rfl, x1⟩; have HX1 := Lib.hid x1; clear x1)
  have hx1 := HX1.out.size
  go_wp2_with (first | (go_at_call 19; (with_reducible refine (within_is _ _ _ _ (by omega) (by omega) h3 h4 HM.out).mono ?_); rintro e w2 ⟨rfl, rfl⟩) | (go_at_call 19; (with_reducible refine (within_is _ _ _ _ (by omega) (by omega) h1 h2 HQ.out).mono ?_); rintro e w2 ⟨rfl, rfl⟩))
  go_loopw [15] (fun v wr => ∃ k c, BRel4 w w1.heap.size m v wr k c) (fun v _ => 12 + m - (intOf v).toNat)
  case atStart => exact ⟨0, cI, rfl, Nat.zero_le _, by rw [blk_if, if_neg (by simp; omega), blk_if, if_neg (by simp), blk_if, if_pos rfl], by rw [blk_if, if_pos (by simp)]; rfl, TzV.leaf _ _ 2 [], ((HX1.out.alloc hx1 _).alloc (by simp; omega) _).alloc (by simp; omega) _⟩
  case round =>
    obtain ⟨k, c, h⟩ := hrel
    obtain rfl := h.slot
    have hk := h.le
    obtain ⟨⟨s0, s1, s2, s3, s4, s5⟩, ⟨g0, g1, g2, g3, g4, g5⟩⟩ := six_blkF h.sat
    obtain ⟨⟨t0, t1, t2, t3⟩, ⟨f0, f1, f2, f3⟩⟩ := four_blk h.tat
    have hz := (Array.getElem?_eq_some_iff.1 h.tat).1
    have hz1 : w1.heap.size + 1 < wr.heap.size := by omega
    have hz0 : w1.heap.size < wr.heap.size := by omega
    have H := Lib.hid h; clear h
    by_cases hlt : k < 10 + m
    · go_wp2
      have hX : ∀ x ∈ [w1.heap.size, w1.heap.size + 1 + 1], x < wr.heap.size := fun x hx => by rcases four_mem hx with rfl | rfl <;> omega
      have hH := nest_kid (ty2 := 25) (vs := []) 4 H.out.tat H.out.val hX (by simp) (by simp)
      have HH := Lib.hid hH
      clear hH hX
      go_roundw
      case rel => exact ⟨k + 1, _, by go_num, by omega, HH.out.only.blk H.out.sat (by omega), HH.out.at_, HH.out.val, H.out.below.trans (HH.out.only.below (by omega) H.out.below.size)⟩
      case measure => simp [intOf]; omega
    · obtain rfl : k = 10 + m := by omega
      have hi := bnd4_is hm4
      have hO := put4_only wr w1.heap.size c
      have hV := (H.out.val.step (Step.only (X := [w1.heap.size, w1.heap.size + 1 + 1]) (vs := []) (by simp) hO)).any
      have hB := H.out.below.trans (hO.below hx1 H.out.below.size)
      have C1 : Calls Try.prog 17 #[.agg #[.int .i64 c.k, .string c.n, .slice c.an c.ln c.cn, .slice c.ak c.lk c.ck, .slice none 0 0, .slice none 0 0]] (put4 wr w1.heap.size c) (fun e w' => e = .returned (.int .i64 (if m ≤ 1 then 0 else 13)) ∧ Below (put4 wr w1.heap.size c).heap.size (put4 wr w1.heap.size c) w') := Check_at ⟨lstT (10 + m), [], []⟩ 0 0 (SzV.build hV (NmsV.nil none) (SgsV.nil none)) rfl hi.1 rfl hi.2
      have HC1 := Lib.hid C1; have HB := Lib.hid hB
      clear C1 hi hV hB hO
      go_wp2_with fail
      refine HC1.out.mono ?_
      rintro e w3 ⟨rfl, x3⟩
      have HX3 := Lib.hid x3; clear x3
      obtain rfl | rfl | rfl | rfl : m = 0 ∨ m = 1 ∨ m = 2 ∨ m = 3 := by omega
      all_goals
        go_wp2
        go_ret
        exact ⟨rfl, HB.out.trans (HX3.out.mono HB.out.size)⟩
end Sp
end Go.Proofs.Ytnnnjonodnkccaa
