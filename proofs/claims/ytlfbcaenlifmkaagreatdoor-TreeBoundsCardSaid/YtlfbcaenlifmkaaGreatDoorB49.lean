/- TreeBounds: brackets as deep, operands as many, as may be, are read; one more is refused. -/
import Derived.Test.YtlfbcaenlifmkaaGreatDoorB47
namespace Go.Proofs.YtlfbcaenlifmkaaGreatDoor
open Go.RowKit
namespace Tr
open Sc Sh Sp
def depS : Nat → List UInt8
  | 0 => [49]
  | j + 1 => 40 :: (depS j ++ [41])
def argS : Nat → List UInt8
  | 0 => [102]
  | j + 1 => argS j ++ [32, 46]
theorem depS_len : ∀ j, (depS j).length = 1 + 2 * j
  | 0 => rfl
  | j + 1 => by have := depS_len j; show (depS j ++ [41]).length + 1 = _; rw [List.length_append, this]; simp; omega
theorem argS_len : ∀ j, (argS j).length = 1 + 2 * j
  | 0 => rfl
  | j + 1 => by have := argS_len j; show (argS j ++ [32, 46]).length = _; rw [List.length_append, this]; simp; omega
theorem deep_is (k : Nat) (hk : k < 4) : (k ≤ 1 → (pipeL (depS (11 + k))).2 = 0 ∧ (pipeL (depS (11 + k))).1.length = 1) ∧ (1 < k → (pipeL (depS (11 + k))).2 = 13) := by
  match k, hk with
  | 0, _ => exact ⟨fun _ => ⟨by kernel_rfl, by kernel_rfl⟩, fun h => absurd h (by omega)⟩
  | 1, _ => exact ⟨fun _ => ⟨by kernel_rfl, by kernel_rfl⟩, fun h => absurd h (by omega)⟩
  | 2, _ => exact ⟨fun h => absurd h (by omega), fun _ => by kernel_rfl⟩
  | 3, _ => exact ⟨fun h => absurd h (by omega), fun _ => by kernel_rfl⟩
theorem args_is (k : Nat) (hk : k < 4) : (k ≤ 1 → (pipeL (argS (3 + k))).2 = 0 ∧ (pipeL (argS (3 + k))).1.length = 1) ∧ (1 < k → (pipeL (argS (3 + k))).2 = 18) := by
  match k, hk with
  | 0, _ => exact ⟨fun _ => ⟨by kernel_rfl, by kernel_rfl⟩, fun h => absurd h (by omega)⟩
  | 1, _ => exact ⟨fun _ => ⟨by kernel_rfl, by kernel_rfl⟩, fun h => absurd h (by omega)⟩
  | 2, _ => exact ⟨fun h => absurd h (by omega), fun _ => by kernel_rfl⟩
  | 3, _ => exact ⟨fun h => absurd h (by omega), fun _ => by kernel_rfl⟩
theorem cat_list (a b : ByteArray) : (a ++ b).data.toList = a.data.toList ++ b.data.toList := Tx.cat_bytes a b
theorem size_list (a : ByteArray) : a.size = a.data.toList.length := by simp only [Array.length_toList]; rfl
/-- What the last line asks. -/
structure BndE (k : Nat) (want e len : Nat) : Prop where
  ok : k ≤ 1 → e = 0 ∧ len = 1
  bad : 1 < k → e = want
set_option maxRecDepth 100000 in
set_option maxHeartbeats 4000000 in
theorem bounds_deep (n : Int) (w : World) (hL : Lean w) (hM : Tx.MaxTab w) (h1 : -9223372036854775808 ≤ n) (h2 : n ≤ 9223372036854775807) :
    Calls Tryz.prog 9 #[.int .i64 n, .bool true] w fun e w' => e = .returned (.bool true) ∧ Below w.heap.size w w' := by
  have CK := known_any w hL hM
  have CW := fun w' => within_any n 4 w' (by omega) (by omega) h1 h2
  obtain ⟨k, hk, hk4⟩ : ∃ k : Nat, n % 4 = (k : Int) ∧ k < 4 := ⟨(n % 4).toNat, by omega, by omega⟩
  rw [hk] at CW
  have hdi := deep_is k hk4
  have HK := Lib.hid CK; have HW := Lib.hid CW; have HL := Lib.hid hL; have HD := Lib.hid hdi
  clear CK CW hL hM hk h1 h2 hdi
  go_enter Tryz.func9, Tryz.ntmps9
  go_wp2_with (first
    | (go_at_call 15; (refine HK.out.mono ?_); rintro e w1 ⟨rfl, b1⟩; have B1 := Lib.hid b1; clear b1)
    | (go_at_call 23; (refine (HW.out w1).mono ?_); rintro e w2 ⟨rfl, rfl⟩))
  go_loopw [5, 7] (fun sv jv wr => ∃ (j : Nat) (t : ByteArray), j ≤ 11 + k ∧ jv = .int .i64 j ∧ sv = .string t ∧ t.size = 1 + 2 * j ∧ Hid (t.data.toList = depS j) ∧ Below w.heap.size w wr) (fun _ jv _ => 11 + k - (intOf jv).toNat)
  case atStart => exact ⟨0, ⟨#[49]⟩, by omega, rfl, rfl, rfl, rfl, B1.out⟩
  case round =>
    obtain ⟨j, t, hj, rfl, rfl, hts, htl, hb⟩ := hrel
    have HB := Lib.hid hb; clear hb
    by_cases hlt : j < 11 + k
    · have hjk : (j : Int) < 11 + (k : Int) := by omega
      have hjk2 : (11 : Int) + (k : Int) ≤ 14 := by omega
      go_wp2
      go_roundw
      case rel => exact ⟨j + 1, _, by omega, by go_num, rfl, by rw [size_list, cat_list, cat_list, htl.out]; simp only [List.length_append, depS_len]; simp; omega, Lib.hid (by rw [cat_list, cat_list, htl.out]; simp [depS]), HB.out⟩
      case measure => simp [intOf]; omega
    · obtain rfl : j = 11 + k := by omega
      have hjk : ¬ ((11 + k : Nat) : Int) < 11 + (k : Int) := by omega
      have CP := Pipe_any t wr (by unfold maxLen; omega) (HL.out.below HB.out)
      rw [htl.out] at CP
      have hE : BndE k 13 (pipeL (depS (11 + k))).2 (pipeL (depS (11 + k))).1.length := ⟨HD.out.1, HD.out.2⟩
      generalize pipeL (depS (11 + k)) = x at *
      obtain ⟨pp, er⟩ := x
      have hE : BndE k 13 er pp.length := hE
      have HP := Lib.hid CP
      clear CP HD
      by_cases hk1 : k ≤ 1
      · obtain ⟨e1, e2⟩ := hE.ok hk1
        have t1 : (k : Int) ≤ 1 := by omega
        have t2 : ¬ (1 : Int) < (k : Int) := by omega
        rw [e1] at HP
        go_wp2_with (go_at_call 17; (refine HP.out.mono ?_); rintro e w5 ⟨pa, us, pc, rfl, b5, -⟩; have B5 := Lib.hid b5; clear b5; rw [e2])
        go_ret
        exact ⟨rfl, HB.out.trans (B5.out.mono HB.out.size)⟩
      · have e1 := hE.bad (by omega)
        have t1 : ¬ (k : Int) ≤ 1 := by omega
        have t2 : (1 : Int) < (k : Int) := by omega
        rw [e1] at HP
        go_wp2_with (go_at_call 17; (refine HP.out.mono ?_); rintro e w5 ⟨pa, us, pc, rfl, b5, -⟩; have B5 := Lib.hid b5; clear b5)
        go_ret
        exact ⟨rfl, HB.out.trans (B5.out.mono HB.out.size)⟩
set_option maxRecDepth 100000 in
set_option maxHeartbeats 4000000 in
theorem bounds_args (n : Int) (w : World) (hL : Lean w) (hM : Tx.MaxTab w) (h1 : -9223372036854775808 ≤ n) (h2 : n ≤ 9223372036854775807) :
    Calls Tryz.prog 9 #[.int .i64 n, .bool false] w fun e w' => e = .returned (.bool true) ∧ Below w.heap.size w w' := by
  have CK := known_any w hL hM
  have CW := fun w' => within_any n 4 w' (by omega) (by omega) h1 h2
  obtain ⟨k, hk, hk4⟩ : ∃ k : Nat, n % 4 = (k : Int) ∧ k < 4 := ⟨(n % 4).toNat, by omega, by omega⟩
  rw [hk] at CW
  have hdi := args_is k hk4
  have HK := Lib.hid CK; have HW := Lib.hid CW; have HL := Lib.hid hL; have HD := Lib.hid hdi
  clear CK CW hL hM hk h1 h2 hdi
  go_enter Tryz.func9, Tryz.ntmps9
  go_wp2_with (first
    | (go_at_call 15; (refine HK.out.mono ?_); rintro e w1 ⟨rfl, b1⟩; have B1 := Lib.hid b1; clear b1)
    | (go_at_call 23; (refine (HW.out w1).mono ?_); rintro e w2 ⟨rfl, rfl⟩))
  go_loopw [5, 8] (fun sv jv wr => ∃ (j : Nat) (t : ByteArray), j ≤ 3 + k ∧ jv = .int .i64 j ∧ sv = .string t ∧ t.size = 1 + 2 * j ∧ Hid (t.data.toList = argS j) ∧ Below w.heap.size w wr) (fun _ jv _ => 3 + k - (intOf jv).toNat)
  case atStart => exact ⟨0, ⟨#[102]⟩, by omega, rfl, rfl, rfl, rfl, B1.out⟩
  case round =>
    obtain ⟨j, t, hj, rfl, rfl, hts, htl, hb⟩ := hrel
    have HB := Lib.hid hb; clear hb
    by_cases hlt : j < 3 + k
    · have hjk : (j : Int) < 3 + (k : Int) := by omega
      have hjk2 : (3 : Int) + (k : Int) ≤ 6 := by omega
      go_wp2
      go_roundw
      case rel => exact ⟨j + 1, _, by omega, by go_num, rfl, by rw [size_list, cat_list, htl.out]; simp only [List.length_append, argS_len]; simp; omega, Lib.hid (by rw [cat_list, htl.out]; simp [argS]), HB.out⟩
      case measure => simp [intOf]; omega
    · obtain rfl : j = 3 + k := by omega
      have hjk : ¬ ((3 + k : Nat) : Int) < 3 + (k : Int) := by omega
      have CP := Pipe_any t wr (by unfold maxLen; omega) (HL.out.below HB.out)
      rw [htl.out] at CP
      have hE : BndE k 18 (pipeL (argS (3 + k))).2 (pipeL (argS (3 + k))).1.length := ⟨HD.out.1, HD.out.2⟩
      generalize pipeL (argS (3 + k)) = x at *
      obtain ⟨pp, er⟩ := x
      have hE : BndE k 18 er pp.length := hE
      have HP := Lib.hid CP
      clear CP HD
      by_cases hk1 : k ≤ 1
      · obtain ⟨e1, e2⟩ := hE.ok hk1
        have t1 : (k : Int) ≤ 1 := by omega
        have t2 : ¬ (1 : Int) < (k : Int) := by omega
        rw [e1] at HP
        go_wp2_with (go_at_call 17; (refine HP.out.mono ?_); rintro e w5 ⟨pa, us, pc, rfl, b5, -⟩; have B5 := Lib.hid b5; clear b5; rw [e2])
        go_ret
        exact ⟨rfl, HB.out.trans (B5.out.mono HB.out.size)⟩
      · have e1 := hE.bad (by omega)
        have t1 : ¬ (k : Int) ≤ 1 := by omega
        have t2 : (1 : Int) < (k : Int) := by omega
        rw [e1] at HP
        go_wp2_with (go_at_call 17; (refine HP.out.mono ?_); rintro e w5 ⟨pa, us, pc, rfl, b5, -⟩; have B5 := Lib.hid b5; clear b5)
        go_ret
        exact ⟨rfl, HB.out.trans (B5.out.mono HB.out.size)⟩
theorem TreeBounds_any (n : Int) (b : Bool) (w : World) (hT : Lean w ∧ Tx.MaxTab w) (h1 : -9223372036854775808 ≤ n) (h2 : n ≤ 9223372036854775807) :
    Calls Tryz.prog 9 #[.int .i64 n, .bool b] w fun e w' => e = .returned (.bool true) ∧ Below w.heap.size w w' := by
  cases b
  · exact bounds_args n w hT.1 hT.2 h1 h2
  · exact bounds_deep n w hT.1 hT.2 h1 h2
end Tr
end Go.Proofs.YtlfbcaenlifmkaaGreatDoor
