/- ShapeOrder's walk. -/
import Derived.Test.YtnnnjonodnkccaaZKnown
namespace Go.Proofs.Ytnnnjonodnkccaa
open Go.RowKit
namespace Sp
open Sc

/-- within, its answer known. -/
theorem within_is (a n k : Int) (w : World) (hn : 0 < n) (hn2 : n ≤ 1000000) (h1 : -9223372036854775808 ≤ a) (h2 : a ≤ 9223372036854775807) (hk : a % n = k) :
    Calls Try.prog 19 #[.int .i64 a, .int .i64 n] w fun e w' => e = .returned (.int .i64 k) ∧ w = w' := hk ▸ within_any a n w hn hn2 h1 h2
/-- A block of a chain of new ones. -/
theorem blk_if (w : World) (o : Obj) (n : Nat) : (w.alloc o).heap[n]? = if n = w.heap.size then some o else w.heap[n]? := by
  split
  · next h => subst h; exact heap_alloc_new w o
  · next h =>
    by_cases hl : n < w.heap.size
    · exact Below.heap_alloc _ _ _ hl
    · rw [Array.getElem?_eq_none (by simp; omega), Array.getElem?_eq_none (by omega)]

set_option maxRecDepth 100000 in
set_option maxHeartbeats 4000000 in
theorem ShapeOrder_0 (which : Int) (twice : Bool) (w : World) (h1 : -9223372036854775808 ≤ which) (h2 : which ≤ 9223372036854775807) (hk : which % 6 = 0) :
    Calls Try.prog 10 #[.int .i64 which, .bool twice] w fun e w' => e = .returned (.bool true) ∧ Below w.heap.size w w' := by
  have HK := Lib.hid hk; clear hk
  cases twice
  · go_enter Try.func10, Try.ntmps10
    go_wp2_with (go_at_call 12; (with_reducible refine (known_any _).mono ?_); rintro e w1 ⟨rfl, x1⟩; have HX1 := Lib.hid x1; clear x1)
    go_wp2_with (go_at_call 19; (with_reducible refine (within_is _ _ _ _ (by omega) (by omega) h1 h2 HK.out).mono ?_); rintro e w2 ⟨rfl, rfl⟩)
    go_wp2_with (go_at_call 17; (refine (Check_at (q := 6) ⟨zI, [([120], zI), ([119], zI)], []⟩ 2 0 (SzV.build (TzV.leaf _ _ 2 []) (NmsV.two (g := w1.heap.size + 1 + 1) (ty := 44) (fr := (0, 0)) [120] [119] (c := cI) (d := cI) (by rw [blk_if, if_pos (by simp)]; try rfl) (TzV.leaf _ _ 2 []) (TzV.leaf _ _ 2 [])) (SgsV.nil none)) rfl (by kernel_rfl) (by kernel_rfl) (by kernel_rfl)).mono ?_); rintro e w3 ⟨rfl, x3⟩; have HX3 := Lib.hid x3; clear x3)
    go_ret
    have hz := HX1.out.size
    refine ⟨rfl, Below.trans ?_ (HX3.out.mono (by simp; omega))⟩
    repeat' (first | exact HX1.out | refine Below.alloc ?_ ?_ _)
    all_goals first | omega | (simp; omega)
  · go_enter Try.func10, Try.ntmps10
    go_wp2_with (go_at_call 12; (with_reducible refine (known_any _).mono ?_); rintro e w1 ⟨rfl, x1⟩; have HX1 := Lib.hid x1; clear x1)
    go_wp2_with (go_at_call 19; (with_reducible refine (within_is _ _ _ _ (by omega) (by omega) h1 h2 HK.out).mono ?_); rintro e w2 ⟨rfl, rfl⟩)
    go_wp2_with (go_at_call 17; (refine (Check_at (q := 6) ⟨zI, [([120], zI), ([120], zI)], []⟩ 2 0 (SzV.build (TzV.leaf _ _ 2 []) (NmsV.two (g := w1.heap.size + 1 + 1) (ty := 44) (fr := (0, 0)) [120] [120] (c := cI) (d := cI) (by rw [blk_if, if_pos (by simp)]; try rfl) (TzV.leaf _ _ 2 []) (TzV.leaf _ _ 2 [])) (SgsV.nil none)) rfl (by kernel_rfl) (by kernel_rfl) (by kernel_rfl)).mono ?_); rintro e w3 ⟨rfl, x3⟩; have HX3 := Lib.hid x3; clear x3)
    go_ret
    have hz := HX1.out.size
    refine ⟨rfl, Below.trans ?_ (HX3.out.mono (by simp; omega))⟩
    repeat' (first | exact HX1.out | refine Below.alloc ?_ ?_ _)
    all_goals first | omega | (simp; omega)

set_option maxRecDepth 100000 in
set_option maxHeartbeats 4000000 in
theorem ShapeOrder_1 (which : Int) (twice : Bool) (w : World) (h1 : -9223372036854775808 ≤ which) (h2 : which ≤ 9223372036854775807) (hk : which % 6 = 1) :
    Calls Try.prog 10 #[.int .i64 which, .bool twice] w fun e w' => e = .returned (.bool true) ∧ Below w.heap.size w w' := by
  have HK := Lib.hid hk; clear hk
  cases twice
  · go_enter Try.func10, Try.ntmps10
    go_wp2_with (go_at_call 12; (with_reducible refine (known_any _).mono ?_); rintro e w1 ⟨rfl, x1⟩; have HX1 := Lib.hid x1; clear x1)
    go_wp2_with (go_at_call 19; (with_reducible refine (within_is _ _ _ _ (by omega) (by omega) h1 h2 HK.out).mono ?_); rintro e w2 ⟨rfl, rfl⟩)
    go_wp2_with (go_at_call 17; (refine (Check_at (q := 6) ⟨zI, [], [⟨[120], [], zI⟩, ⟨[119], [], zI⟩]⟩ 0 2 (SzV.build (TzV.leaf _ _ 2 []) (NmsV.nil none) (SgsV.two (g := w1.heap.size + 1 + 1) (ty := 46) (fr := (0, 0)) (x := ([120], ⟨none, 0, 0, cI⟩)) (y := ([119], ⟨none, 0, 0, cI⟩)) (by rw [blk_if, if_pos (by simp)]; try rfl) (SgV.bare [120] (TzV.leaf _ _ 2 [])) (SgV.bare [119] (TzV.leaf _ _ 2 [])))) rfl (by kernel_rfl) (by kernel_rfl) (by kernel_rfl)).mono ?_); rintro e w3 ⟨rfl, x3⟩; have HX3 := Lib.hid x3; clear x3)
    go_ret
    have hz := HX1.out.size
    refine ⟨rfl, Below.trans ?_ (HX3.out.mono (by simp; omega))⟩
    repeat' (first | exact HX1.out | refine Below.alloc ?_ ?_ _)
    all_goals first | omega | (simp; omega)
  · go_enter Try.func10, Try.ntmps10
    go_wp2_with (go_at_call 12; (with_reducible refine (known_any _).mono ?_); rintro e w1 ⟨rfl, x1⟩; have HX1 := Lib.hid x1; clear x1)
    go_wp2_with (go_at_call 19; (with_reducible refine (within_is _ _ _ _ (by omega) (by omega) h1 h2 HK.out).mono ?_); rintro e w2 ⟨rfl, rfl⟩)
    go_wp2_with (go_at_call 17; (refine (Check_at (q := 6) ⟨zI, [], [⟨[120], [], zI⟩, ⟨[120], [], zI⟩]⟩ 0 2 (SzV.build (TzV.leaf _ _ 2 []) (NmsV.nil none) (SgsV.two (g := w1.heap.size + 1 + 1) (ty := 46) (fr := (0, 0)) (x := ([120], ⟨none, 0, 0, cI⟩)) (y := ([120], ⟨none, 0, 0, cI⟩)) (by rw [blk_if, if_pos (by simp)]; try rfl) (SgV.bare [120] (TzV.leaf _ _ 2 [])) (SgV.bare [120] (TzV.leaf _ _ 2 [])))) rfl (by kernel_rfl) (by kernel_rfl) (by kernel_rfl)).mono ?_); rintro e w3 ⟨rfl, x3⟩; have HX3 := Lib.hid x3; clear x3)
    go_ret
    have hz := HX1.out.size
    refine ⟨rfl, Below.trans ?_ (HX3.out.mono (by simp; omega))⟩
    repeat' (first | exact HX1.out | refine Below.alloc ?_ ?_ _)
    all_goals first | omega | (simp; omega)

set_option maxRecDepth 100000 in
set_option maxHeartbeats 4000000 in
theorem ShapeOrder_2 (which : Int) (twice : Bool) (w : World) (h1 : -9223372036854775808 ≤ which) (h2 : which ≤ 9223372036854775807) (hk : which % 6 = 2) :
    Calls Try.prog 10 #[.int .i64 which, .bool twice] w fun e w' => e = .returned (.bool true) ∧ Below w.heap.size w w' := by
  have HK := Lib.hid hk; clear hk
  cases twice
  · go_enter Try.func10, Try.ntmps10
    go_wp2_with (go_at_call 12; (with_reducible refine (known_any _).mono ?_); rintro e w1 ⟨rfl, x1⟩; have HX1 := Lib.hid x1; clear x1)
    go_wp2_with (go_at_call 19; (with_reducible refine (within_is _ _ _ _ (by omega) (by omega) h1 h2 HK.out).mono ?_); rintro e w2 ⟨rfl, rfl⟩)
    go_wp2_with (go_at_call 17; (refine (Check_at (q := 6) ⟨.mk 7 [] [[120], [119]] [zI, zI], [], []⟩ 0 0 (SzV.build (TzV.two (gn := w1.heap.size + 1 + 1) (g := w1.heap.size + 1 + 1 + 1) (tn := 9) (ty := 25) (fn := (0, 0)) (fr := (0, 0)) (c := cI) (d := cI) 7 [120] [119] (by rw [blk_if, if_neg (by simp <;> omega), blk_if, if_pos (by simp)]; try rfl) (by rw [blk_if, if_pos (by simp)]; try rfl) (TzV.leaf _ _ 2 []) (TzV.leaf _ _ 2 [])) (NmsV.nil none) (SgsV.nil none)) rfl (by kernel_rfl) (by kernel_rfl) (by kernel_rfl)).mono ?_); rintro e w3 ⟨rfl, x3⟩; have HX3 := Lib.hid x3; clear x3)
    go_ret
    have hz := HX1.out.size
    refine ⟨rfl, Below.trans ?_ (HX3.out.mono (by simp; omega))⟩
    repeat' (first | exact HX1.out | refine Below.alloc ?_ ?_ _)
    all_goals first | omega | (simp; omega)
  · go_enter Try.func10, Try.ntmps10
    go_wp2_with (go_at_call 12; (with_reducible refine (known_any _).mono ?_); rintro e w1 ⟨rfl, x1⟩; have HX1 := Lib.hid x1; clear x1)
    go_wp2_with (go_at_call 19; (with_reducible refine (within_is _ _ _ _ (by omega) (by omega) h1 h2 HK.out).mono ?_); rintro e w2 ⟨rfl, rfl⟩)
    go_wp2_with (go_at_call 17; (refine (Check_at (q := 6) ⟨.mk 7 [] [[120], [120]] [zI, zI], [], []⟩ 0 0 (SzV.build (TzV.two (gn := w1.heap.size + 1 + 1) (g := w1.heap.size + 1 + 1 + 1) (tn := 9) (ty := 25) (fn := (0, 0)) (fr := (0, 0)) (c := cI) (d := cI) 7 [120] [120] (by rw [blk_if, if_neg (by simp <;> omega), blk_if, if_pos (by simp)]; try rfl) (by rw [blk_if, if_pos (by simp)]; try rfl) (TzV.leaf _ _ 2 []) (TzV.leaf _ _ 2 [])) (NmsV.nil none) (SgsV.nil none)) rfl (by kernel_rfl) (by kernel_rfl) (by kernel_rfl)).mono ?_); rintro e w3 ⟨rfl, x3⟩; have HX3 := Lib.hid x3; clear x3)
    go_ret
    have hz := HX1.out.size
    refine ⟨rfl, Below.trans ?_ (HX3.out.mono (by simp; omega))⟩
    repeat' (first | exact HX1.out | refine Below.alloc ?_ ?_ _)
    all_goals first | omega | (simp; omega)

set_option maxRecDepth 100000 in
set_option maxHeartbeats 4000000 in
theorem ShapeOrder_3 (which : Int) (twice : Bool) (w : World) (h1 : -9223372036854775808 ≤ which) (h2 : which ≤ 9223372036854775807) (hk : which % 6 = 3) :
    Calls Try.prog 10 #[.int .i64 which, .bool twice] w fun e w' => e = .returned (.bool true) ∧ Below w.heap.size w w' := by
  have HK := Lib.hid hk; clear hk
  cases twice
  · go_enter Try.func10, Try.ntmps10
    go_wp2_with (go_at_call 12; (with_reducible refine (known_any _).mono ?_); rintro e w1 ⟨rfl, x1⟩; have HX1 := Lib.hid x1; clear x1)
    go_wp2_with (go_at_call 19; (with_reducible refine (within_is _ _ _ _ (by omega) (by omega) h1 h2 HK.out).mono ?_); rintro e w2 ⟨rfl, rfl⟩)
    go_wp2_with (go_at_call 17; (refine (Check_at (q := 6) ⟨.mk 8 [] [[120], [119]] [zI, zI], [], []⟩ 0 0 (SzV.build (TzV.two (gn := w1.heap.size + 1 + 1) (g := w1.heap.size + 1 + 1 + 1) (tn := 9) (ty := 25) (fn := (0, 0)) (fr := (0, 0)) (c := cI) (d := cI) 8 [120] [119] (by rw [blk_if, if_neg (by simp <;> omega), blk_if, if_pos (by simp)]; try rfl) (by rw [blk_if, if_pos (by simp)]; try rfl) (TzV.leaf _ _ 2 []) (TzV.leaf _ _ 2 [])) (NmsV.nil none) (SgsV.nil none)) rfl (by kernel_rfl) (by kernel_rfl) (by kernel_rfl)).mono ?_); rintro e w3 ⟨rfl, x3⟩; have HX3 := Lib.hid x3; clear x3)
    go_ret
    have hz := HX1.out.size
    refine ⟨rfl, Below.trans ?_ (HX3.out.mono (by simp; omega))⟩
    repeat' (first | exact HX1.out | refine Below.alloc ?_ ?_ _)
    all_goals first | omega | (simp; omega)
  · go_enter Try.func10, Try.ntmps10
    go_wp2_with (go_at_call 12; (with_reducible refine (known_any _).mono ?_); rintro e w1 ⟨rfl, x1⟩; have HX1 := Lib.hid x1; clear x1)
    go_wp2_with (go_at_call 19; (with_reducible refine (within_is _ _ _ _ (by omega) (by omega) h1 h2 HK.out).mono ?_); rintro e w2 ⟨rfl, rfl⟩)
    go_wp2_with (go_at_call 17; (refine (Check_at (q := 6) ⟨.mk 8 [] [[120], [120]] [zI, zI], [], []⟩ 0 0 (SzV.build (TzV.two (gn := w1.heap.size + 1 + 1) (g := w1.heap.size + 1 + 1 + 1) (tn := 9) (ty := 25) (fn := (0, 0)) (fr := (0, 0)) (c := cI) (d := cI) 8 [120] [120] (by rw [blk_if, if_neg (by simp <;> omega), blk_if, if_pos (by simp)]; try rfl) (by rw [blk_if, if_pos (by simp)]; try rfl) (TzV.leaf _ _ 2 []) (TzV.leaf _ _ 2 [])) (NmsV.nil none) (SgsV.nil none)) rfl (by kernel_rfl) (by kernel_rfl) (by kernel_rfl)).mono ?_); rintro e w3 ⟨rfl, x3⟩; have HX3 := Lib.hid x3; clear x3)
    go_ret
    have hz := HX1.out.size
    refine ⟨rfl, Below.trans ?_ (HX3.out.mono (by simp; omega))⟩
    repeat' (first | exact HX1.out | refine Below.alloc ?_ ?_ _)
    all_goals first | omega | (simp; omega)

set_option maxRecDepth 100000 in
set_option maxHeartbeats 4000000 in
theorem ShapeOrder_4 (which : Int) (twice : Bool) (w : World) (h1 : -9223372036854775808 ≤ which) (h2 : which ≤ 9223372036854775807) (hk : which % 6 = 4) :
    Calls Try.prog 10 #[.int .i64 which, .bool twice] w fun e w' => e = .returned (.bool true) ∧ Below w.heap.size w w' := by
  have HK := Lib.hid hk; clear hk
  cases twice
  · go_enter Try.func10, Try.ntmps10
    go_wp2_with (go_at_call 12; (with_reducible refine (known_any _).mono ?_); rintro e w1 ⟨rfl, x1⟩; have HX1 := Lib.hid x1; clear x1)
    go_wp2_with (go_at_call 19; (with_reducible refine (within_is _ _ _ _ (by omega) (by omega) h1 h2 HK.out).mono ?_); rintro e w2 ⟨rfl, rfl⟩)
    go_wp2_with (go_at_call 17; (refine (Check_at (q := 15) ⟨zI, [([76, 105, 115, 116], zI)], []⟩ 1 0 (SzV.build (TzV.leaf _ _ 2 []) (NmsV.one (g := w1.heap.size + 1 + 1) (ty := 44) (fr := (0, 0)) [76, 105, 115, 116] (c := cI) (by rw [blk_if, if_pos (by simp)]; try rfl) (TzV.leaf _ _ 2 [])) (SgsV.nil none)) rfl (by kernel_rfl) (by kernel_rfl) (by kernel_rfl)).mono ?_); rintro e w3 ⟨rfl, x3⟩; have HX3 := Lib.hid x3; clear x3)
    go_ret
    have hz := HX1.out.size
    refine ⟨rfl, Below.trans ?_ (HX3.out.mono (by simp; omega))⟩
    repeat' (first | exact HX1.out | refine Below.alloc ?_ ?_ _)
    all_goals first | omega | (simp; omega)
  · go_enter Try.func10, Try.ntmps10
    go_wp2_with (go_at_call 12; (with_reducible refine (known_any _).mono ?_); rintro e w1 ⟨rfl, x1⟩; have HX1 := Lib.hid x1; clear x1)
    go_wp2_with (go_at_call 19; (with_reducible refine (within_is _ _ _ _ (by omega) (by omega) h1 h2 HK.out).mono ?_); rintro e w2 ⟨rfl, rfl⟩)
    go_wp2_with (go_at_call 17; (refine (Check_at (q := 15) ⟨zI, [([76, 105, 115, 116], zI)], []⟩ 1 0 (SzV.build (TzV.leaf _ _ 2 []) (NmsV.one (g := w1.heap.size + 1 + 1) (ty := 44) (fr := (0, 0)) [76, 105, 115, 116] (c := cI) (by rw [blk_if, if_pos (by simp)]; try rfl) (TzV.leaf _ _ 2 [])) (SgsV.nil none)) rfl (by kernel_rfl) (by kernel_rfl) (by kernel_rfl)).mono ?_); rintro e w3 ⟨rfl, x3⟩; have HX3 := Lib.hid x3; clear x3)
    go_ret
    have hz := HX1.out.size
    refine ⟨rfl, Below.trans ?_ (HX3.out.mono (by simp; omega))⟩
    repeat' (first | exact HX1.out | refine Below.alloc ?_ ?_ _)
    all_goals first | omega | (simp; omega)

set_option maxRecDepth 100000 in
set_option maxHeartbeats 4000000 in
theorem ShapeOrder_5 (which : Int) (twice : Bool) (w : World) (h1 : -9223372036854775808 ≤ which) (h2 : which ≤ 9223372036854775807) (hk : which % 6 = 5) :
    Calls Try.prog 10 #[.int .i64 which, .bool twice] w fun e w' => e = .returned (.bool true) ∧ Below w.heap.size w w' := by
  have HK := Lib.hid hk; clear hk
  cases twice
  · go_enter Try.func10, Try.ntmps10
    go_wp2_with (go_at_call 12; (with_reducible refine (known_any _).mono ?_); rintro e w1 ⟨rfl, x1⟩; have HX1 := Lib.hid x1; clear x1)
    go_wp2_with (go_at_call 19; (with_reducible refine (within_is _ _ _ _ (by omega) (by omega) h1 h2 HK.out).mono ?_); rintro e w2 ⟨rfl, rfl⟩)
    go_wp2_with (go_at_call 17; (refine (Check_at (q := 12) ⟨.mk 8 [] [] [], [], []⟩ 0 0 (SzV.build (TzV.leaf _ _ 8 []) (NmsV.nil none) (SgsV.nil none)) rfl (by kernel_rfl) (by kernel_rfl) (by kernel_rfl)).mono ?_); rintro e w3 ⟨rfl, x3⟩; have HX3 := Lib.hid x3; clear x3)
    go_ret
    have hz := HX1.out.size
    refine ⟨rfl, Below.trans ?_ (HX3.out.mono (by simp; omega))⟩
    repeat' (first | exact HX1.out | refine Below.alloc ?_ ?_ _)
    all_goals first | omega | (simp; omega)
  · go_enter Try.func10, Try.ntmps10
    go_wp2_with (go_at_call 12; (with_reducible refine (known_any _).mono ?_); rintro e w1 ⟨rfl, x1⟩; have HX1 := Lib.hid x1; clear x1)
    go_wp2_with (go_at_call 19; (with_reducible refine (within_is _ _ _ _ (by omega) (by omega) h1 h2 HK.out).mono ?_); rintro e w2 ⟨rfl, rfl⟩)
    go_wp2_with (go_at_call 17; (refine (Check_at (q := 12) ⟨.mk 8 [] [] [], [], []⟩ 0 0 (SzV.build (TzV.leaf _ _ 8 []) (NmsV.nil none) (SgsV.nil none)) rfl (by kernel_rfl) (by kernel_rfl) (by kernel_rfl)).mono ?_); rintro e w3 ⟨rfl, x3⟩; have HX3 := Lib.hid x3; clear x3)
    go_ret
    have hz := HX1.out.size
    refine ⟨rfl, Below.trans ?_ (HX3.out.mono (by simp; omega))⟩
    repeat' (first | exact HX1.out | refine Below.alloc ?_ ?_ _)
    all_goals first | omega | (simp; omega)

theorem ShapeOrder_any (which : Int) (twice : Bool) (w : World) (h1 : -9223372036854775808 ≤ which) (h2 : which ≤ 9223372036854775807) :
    Calls Try.prog 10 #[.int .i64 which, .bool twice] w fun e w' => e = .returned (.bool true) ∧ Below w.heap.size w w' := by
  have a := Int.emod_nonneg which (show (6 : Int) ≠ 0 by decide)
  have b := Int.emod_lt_of_pos which (show (0 : Int) < 6 by decide)
  rcases (show which % 6 = 0 ∨ which % 6 = 1 ∨ which % 6 = 2 ∨ which % 6 = 3 ∨ which % 6 = 4 ∨ which % 6 = 5 by omega) with h | h | h | h | h | h
  · exact ShapeOrder_0 which twice w h1 h2 h
  · exact ShapeOrder_1 which twice w h1 h2 h
  · exact ShapeOrder_2 which twice w h1 h2 h
  · exact ShapeOrder_3 which twice w h1 h2 h
  · exact ShapeOrder_4 which twice w h1 h2 h
  · exact ShapeOrder_5 which twice w h1 h2 h
end Sp
end Go.Proofs.Ytnnnjonodnkccaa
