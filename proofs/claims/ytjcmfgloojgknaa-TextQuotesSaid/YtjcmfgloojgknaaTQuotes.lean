/- TextQuotes: the pure part and the walk. Written by gen_tquotes.py. -/
import Derived.Test.YtjcmfgloojgknaaTLaw
namespace Go.Proofs.Ytjcmfgloojgknaa
open Go.RowKit
namespace Tx

def q1 (n : Nat) : List UInt8 := [123, 123, 34] ++ List.replicate n 92 ++ [34, 125, 125]
def q2 (n : Nat) : List UInt8 := q1 n ++ [34, 125, 125]
def qa (n : Nat) : List UInt8 := [34] ++ List.replicate n 92 ++ [34]
def qb (n : Nat) : List UInt8 := [34] ++ List.replicate n 92 ++ [34, 125, 125, 34]
theorem qe0 : splitL (q1 0) = (0, [⟨true, qa 0, 0⟩]) := by kernel_rfl
theorem qc0 : splitL (q2 0) = (0, [⟨true, qa 0, 0⟩, ⟨false, [34, 125, 125], 6⟩]) := by kernel_rfl
theorem qe1 : splitL (q1 1) = (11, []) := by kernel_rfl
theorem qc1 : splitL (q2 1) = (0, [⟨true, qb 1, 0⟩]) := by kernel_rfl
theorem qe2 : splitL (q1 2) = (0, [⟨true, qa 2, 0⟩]) := by kernel_rfl
theorem qc2 : splitL (q2 2) = (0, [⟨true, qa 2, 0⟩, ⟨false, [34, 125, 125], 8⟩]) := by kernel_rfl
theorem qe3 : splitL (q1 3) = (11, []) := by kernel_rfl
theorem qc3 : splitL (q2 3) = (0, [⟨true, qb 3, 0⟩]) := by kernel_rfl
theorem qe4 : splitL (q1 4) = (0, [⟨true, qa 4, 0⟩]) := by kernel_rfl
theorem qc4 : splitL (q2 4) = (0, [⟨true, qa 4, 0⟩, ⟨false, [34, 125, 125], 10⟩]) := by kernel_rfl
theorem qe5 : splitL (q1 5) = (11, []) := by kernel_rfl
theorem qc5 : splitL (q2 5) = (0, [⟨true, qb 5, 0⟩]) := by kernel_rfl
theorem qe6 : splitL (q1 6) = (0, [⟨true, qa 6, 0⟩]) := by kernel_rfl
theorem qc6 : splitL (q2 6) = (0, [⟨true, qa 6, 0⟩, ⟨false, [34, 125, 125], 12⟩]) := by kernel_rfl
theorem qe7 : splitL (q1 7) = (11, []) := by kernel_rfl
theorem qc7 : splitL (q2 7) = (0, [⟨true, qb 7, 0⟩]) := by kernel_rfl
theorem qe8 : splitL (q1 8) = (0, [⟨true, qa 8, 0⟩]) := by kernel_rfl
theorem qc8 : splitL (q2 8) = (0, [⟨true, qa 8, 0⟩, ⟨false, [34, 125, 125], 14⟩]) := by kernel_rfl
theorem qe9 : splitL (q1 9) = (11, []) := by kernel_rfl
theorem qc9 : splitL (q2 9) = (0, [⟨true, qb 9, 0⟩]) := by kernel_rfl
theorem qe10 : splitL (q1 10) = (0, [⟨true, qa 10, 0⟩]) := by kernel_rfl
theorem qc10 : splitL (q2 10) = (0, [⟨true, qa 10, 0⟩, ⟨false, [34, 125, 125], 16⟩]) := by kernel_rfl
theorem qe11 : splitL (q1 11) = (11, []) := by kernel_rfl
theorem qc11 : splitL (q2 11) = (0, [⟨true, qb 11, 0⟩]) := by kernel_rfl
theorem q_even (n : Nat) (h : n < 12) (h2 : n % 2 = 0) : splitL (q1 n) = (0, [⟨true, qa n, 0⟩]) := by
  match n, h, h2 with
  | 0, _, _ => exact qe0
  | 1, _, h2 => exact absurd h2 (by decide)
  | 2, _, _ => exact qe2
  | 3, _, h2 => exact absurd h2 (by decide)
  | 4, _, _ => exact qe4
  | 5, _, h2 => exact absurd h2 (by decide)
  | 6, _, _ => exact qe6
  | 7, _, h2 => exact absurd h2 (by decide)
  | 8, _, _ => exact qe8
  | 9, _, h2 => exact absurd h2 (by decide)
  | 10, _, _ => exact qe10
  | 11, _, h2 => exact absurd h2 (by decide)
theorem q_even2 (n : Nat) (h : n < 12) (h2 : n % 2 = 0) : splitL (q2 n) = (0, [⟨true, qa n, 0⟩, ⟨false, [34, 125, 125], n + 6⟩]) := by
  match n, h, h2 with
  | 0, _, _ => exact qc0
  | 1, _, h2 => exact absurd h2 (by decide)
  | 2, _, _ => exact qc2
  | 3, _, h2 => exact absurd h2 (by decide)
  | 4, _, _ => exact qc4
  | 5, _, h2 => exact absurd h2 (by decide)
  | 6, _, _ => exact qc6
  | 7, _, h2 => exact absurd h2 (by decide)
  | 8, _, _ => exact qc8
  | 9, _, h2 => exact absurd h2 (by decide)
  | 10, _, _ => exact qc10
  | 11, _, h2 => exact absurd h2 (by decide)
theorem q_odd (n : Nat) (h : n < 12) (h2 : n % 2 = 1) : splitL (q1 n) = (11, []) := by
  match n, h, h2 with
  | 0, _, h2 => exact absurd h2 (by decide)
  | 1, _, _ => exact qe1
  | 2, _, h2 => exact absurd h2 (by decide)
  | 3, _, _ => exact qe3
  | 4, _, h2 => exact absurd h2 (by decide)
  | 5, _, _ => exact qe5
  | 6, _, h2 => exact absurd h2 (by decide)
  | 7, _, _ => exact qe7
  | 8, _, h2 => exact absurd h2 (by decide)
  | 9, _, _ => exact qe9
  | 10, _, h2 => exact absurd h2 (by decide)
  | 11, _, _ => exact qe11
theorem q_odd2 (n : Nat) (h : n < 12) (h2 : n % 2 = 1) : splitL (q2 n) = (0, [⟨true, qb n, 0⟩]) := by
  match n, h, h2 with
  | 0, _, h2 => exact absurd h2 (by decide)
  | 1, _, _ => exact qc1
  | 2, _, h2 => exact absurd h2 (by decide)
  | 3, _, _ => exact qc3
  | 4, _, h2 => exact absurd h2 (by decide)
  | 5, _, _ => exact qc5
  | 6, _, h2 => exact absurd h2 (by decide)
  | 7, _, _ => exact qc7
  | 8, _, h2 => exact absurd h2 (by decide)
  | 9, _, _ => exact qc9
  | 10, _, h2 => exact absurd h2 (by decide)
  | 11, _, _ => exact qc11

set_option maxRecDepth 100000 in
set_option maxHeartbeats 2000000 in
theorem quotes_o0 (a : Int) (n : Nat) (hn : a % 12 = n) (hp : n % 2 = 0) (w : World) (hM : MaxTab w) (ha1 : -9223372036854775808 ≤ a) (ha2 : a ≤ 9223372036854775807) :
    Calls Try.prog 6 #[.int .i64 a, .bool false] w fun e w' => e = .returned (.bool true) ∧ Below w.heap.size w w' := by
  have hn0 := Int.emod_nonneg a (show (12 : Int) ≠ 0 by omega)
  have hn4 := Int.emod_lt_of_pos a (show (0 : Int) < 12 by omega)
  have cK := known_any w hM
  have cA := fun w => within_any a 12 w (by omega) (by omega) ha1 ha2
  rw [hn] at cA hn0 hn4
  have hf := q_even n (by omega) hp
  have tp : ((n : Int) % 2 == 0) = true := by simp; omega
  have hn12 : n < 12 := by omega
  have HM := Lib.hid hM; have HK := Lib.hid cK; have HA := Lib.hid cA; have HF := Lib.hid hf
  clear hM cK cA hf hn ha1 ha2 hp
  go_enter Try.func6, Try.ntmps6
  go_wp2_with (first
    | (go_at_call 9; (with_reducible refine HK.out.mono ?_); rintro e w1 ⟨rfl, hb⟩)
    | (go_at_call 13; (with_reducible refine (HA.out _).mono ?_); rintro e w' ⟨rfl, rfl⟩))
  have HB : Hid (Below w.heap.size w w1) := hb
  clear hb
  go_loop [5, 6] (fun sv k => ∃ (j : Nat) (t : ByteArray), j ≤ n ∧ k = .int .i64 j ∧ sv = .string t ∧ t.size = j ∧ Hid (t.data.toList = [] ++ List.replicate j 92)) (fun _ k => n - (intOf k).toNat)
  case atStart => exact ⟨0, _, by omega, rfl, rfl, rfl, rfl⟩
  case round =>
    obtain ⟨j, t, hj, rfl, rfl, hts, ht⟩ := hrel
    by_cases hlt : j < n
    · go_wp2
      go_round
      case rel =>
        refine ⟨j + 1, _, by omega, by go_num, rfl, ?_, ?_⟩
        · rw [ByteArray.size_append, hts]; rfl
        · unfold Hid; rw [cat_bytes, ht.out]; exact (rep_snoc _ _ _).symm
      case measure => simp [intOf]; omega
    · have hjn : j = n := by omega
      have hbytes : ((⟨#[123, 123, 34]⟩ ++ t) ++ ⟨#[34, 125, 125]⟩).data.toList = q1 n := by
        rw [cat_bytes, cat_bytes, ht.out, hjn, List.nil_append]; rfl
      have hsz : t.size ≤ 12 := by omega
      have hsz2 : ((⟨#[123, 123, 34]⟩ ++ t) ++ ⟨#[34, 125, 125]⟩).size ≤ 30 := by
        rw [ByteArray.size_append, ByteArray.size_append]; show 3 + t.size + 3 ≤ 30; omega
      have cT := Split_any ((⟨#[123, 123, 34]⟩ ++ t) ++ ⟨#[34, 125, 125]⟩) w1 (by unfold maxLen; omega) (HM.out.below HB.out)
      unfold SplitPost at cT
      rw [hbytes, HF.out] at cT
      have HC := Lib.hid cT; have HJ := Lib.hid hts; have HJ2 := Lib.hid hjn
      clear cT ht HF HM HK HA hts hjn hbytes
      go_wp2_with fail
      (with_reducible refine HC.out.mono ?_); rintro e w2 ⟨hb2, v, rfl, ho⟩
      obtain ⟨g, cap, rfl, hgb, hgw⟩ := row_some ho (by simp)
      have r0 := (row_at ho 0 (by simp)).2.1
      have r0' : w2.cell? ⟨g, 1, none⟩ = some (.string ⟨(qa n).toArray⟩) := r0
      have tz : (((⟨(qa n).toArray⟩ : ByteArray).size : Int) == (n : Int) + 2) = true := by
        have : (⟨(qa n).toArray⟩ : ByteArray).size = n + 2 := by show (qa n).length = _; simp [qa]
        rw [this]; simp
      generalize (⟨(qa n).toArray⟩ : ByteArray) = xb at *
      have HB2 := Lib.hid hb2
      clear ho hb2 HC r0
      go_wp2
      go_ret
      exact ⟨rfl, HB.out.trans (HB2.out.mono HB.out.size)⟩

set_option maxRecDepth 100000 in
set_option maxHeartbeats 2000000 in
theorem quotes_o1 (a : Int) (n : Nat) (hn : a % 12 = n) (hp : n % 2 = 1) (w : World) (hM : MaxTab w) (ha1 : -9223372036854775808 ≤ a) (ha2 : a ≤ 9223372036854775807) :
    Calls Try.prog 6 #[.int .i64 a, .bool false] w fun e w' => e = .returned (.bool true) ∧ Below w.heap.size w w' := by
  have hn0 := Int.emod_nonneg a (show (12 : Int) ≠ 0 by omega)
  have hn4 := Int.emod_lt_of_pos a (show (0 : Int) < 12 by omega)
  have cK := known_any w hM
  have cA := fun w => within_any a 12 w (by omega) (by omega) ha1 ha2
  rw [hn] at cA hn0 hn4
  have hf := q_odd n (by omega) hp
  have tp : ((n : Int) % 2 == 0) = false := by simp; omega
  have hn12 : n < 12 := by omega
  have HM := Lib.hid hM; have HK := Lib.hid cK; have HA := Lib.hid cA; have HF := Lib.hid hf
  clear hM cK cA hf hn ha1 ha2 hp
  go_enter Try.func6, Try.ntmps6
  go_wp2_with (first
    | (go_at_call 9; (with_reducible refine HK.out.mono ?_); rintro e w1 ⟨rfl, hb⟩)
    | (go_at_call 13; (with_reducible refine (HA.out _).mono ?_); rintro e w' ⟨rfl, rfl⟩))
  have HB : Hid (Below w.heap.size w w1) := hb
  clear hb
  go_loop [5, 6] (fun sv k => ∃ (j : Nat) (t : ByteArray), j ≤ n ∧ k = .int .i64 j ∧ sv = .string t ∧ t.size = j ∧ Hid (t.data.toList = [] ++ List.replicate j 92)) (fun _ k => n - (intOf k).toNat)
  case atStart => exact ⟨0, _, by omega, rfl, rfl, rfl, rfl⟩
  case round =>
    obtain ⟨j, t, hj, rfl, rfl, hts, ht⟩ := hrel
    by_cases hlt : j < n
    · go_wp2
      go_round
      case rel =>
        refine ⟨j + 1, _, by omega, by go_num, rfl, ?_, ?_⟩
        · rw [ByteArray.size_append, hts]; rfl
        · unfold Hid; rw [cat_bytes, ht.out]; exact (rep_snoc _ _ _).symm
      case measure => simp [intOf]; omega
    · have hjn : j = n := by omega
      have hbytes : ((⟨#[123, 123, 34]⟩ ++ t) ++ ⟨#[34, 125, 125]⟩).data.toList = q1 n := by
        rw [cat_bytes, cat_bytes, ht.out, hjn, List.nil_append]; rfl
      have hsz : t.size ≤ 12 := by omega
      have hsz2 : ((⟨#[123, 123, 34]⟩ ++ t) ++ ⟨#[34, 125, 125]⟩).size ≤ 30 := by
        rw [ByteArray.size_append, ByteArray.size_append]; show 3 + t.size + 3 ≤ 30; omega
      have cT := Split_any ((⟨#[123, 123, 34]⟩ ++ t) ++ ⟨#[34, 125, 125]⟩) w1 (by unfold maxLen; omega) (HM.out.below HB.out)
      unfold SplitPost at cT
      rw [hbytes, HF.out] at cT
      have HC := Lib.hid cT; have HJ := Lib.hid hts; have HJ2 := Lib.hid hjn
      clear cT ht HF HM HK HA hts hjn hbytes
      go_wp2_with fail
      (with_reducible refine HC.out.mono ?_); rintro e w2 ⟨hb2, v, rfl, ho⟩
      obtain ⟨sa, sc, rfl⟩ := own_slice ho
      have HB2 := Lib.hid hb2
      clear ho hb2 HC
      go_wp2
      go_ret
      exact ⟨rfl, HB.out.trans (HB2.out.mono HB.out.size)⟩

set_option maxRecDepth 100000 in
set_option maxHeartbeats 2000000 in
theorem quotes_c0 (a : Int) (n : Nat) (hn : a % 12 = n) (hp : n % 2 = 0) (w : World) (hM : MaxTab w) (ha1 : -9223372036854775808 ≤ a) (ha2 : a ≤ 9223372036854775807) :
    Calls Try.prog 6 #[.int .i64 a, .bool true] w fun e w' => e = .returned (.bool true) ∧ Below w.heap.size w w' := by
  have hn0 := Int.emod_nonneg a (show (12 : Int) ≠ 0 by omega)
  have hn4 := Int.emod_lt_of_pos a (show (0 : Int) < 12 by omega)
  have cK := known_any w hM
  have cA := fun w => within_any a 12 w (by omega) (by omega) ha1 ha2
  rw [hn] at cA hn0 hn4
  have hf := q_even2 n (by omega) hp
  have tp : ((n : Int) % 2 == 0) = true := by simp; omega
  have hn12 : n < 12 := by omega
  have HM := Lib.hid hM; have HK := Lib.hid cK; have HA := Lib.hid cA; have HF := Lib.hid hf
  clear hM cK cA hf hn ha1 ha2 hp
  go_enter Try.func6, Try.ntmps6
  go_wp2_with (first
    | (go_at_call 9; (with_reducible refine HK.out.mono ?_); rintro e w1 ⟨rfl, hb⟩)
    | (go_at_call 13; (with_reducible refine (HA.out _).mono ?_); rintro e w' ⟨rfl, rfl⟩))
  have HB : Hid (Below w.heap.size w w1) := hb
  clear hb
  go_loop [5, 6] (fun sv k => ∃ (j : Nat) (t : ByteArray), j ≤ n ∧ k = .int .i64 j ∧ sv = .string t ∧ t.size = j ∧ Hid (t.data.toList = [] ++ List.replicate j 92)) (fun _ k => n - (intOf k).toNat)
  case atStart => exact ⟨0, _, by omega, rfl, rfl, rfl, rfl⟩
  case round =>
    obtain ⟨j, t, hj, rfl, rfl, hts, ht⟩ := hrel
    by_cases hlt : j < n
    · go_wp2
      go_round
      case rel =>
        refine ⟨j + 1, _, by omega, by go_num, rfl, ?_, ?_⟩
        · rw [ByteArray.size_append, hts]; rfl
        · unfold Hid; rw [cat_bytes, ht.out]; exact (rep_snoc _ _ _).symm
      case measure => simp [intOf]; omega
    · have hjn : j = n := by omega
      have hbytes : (((⟨#[123, 123, 34]⟩ ++ t) ++ ⟨#[34, 125, 125]⟩) ++ ⟨#[34, 125, 125]⟩).data.toList = q2 n := by
        rw [cat_bytes, cat_bytes, cat_bytes, ht.out, hjn, List.nil_append]; rfl
      have hsz : t.size ≤ 12 := by omega
      have hsz2 : (((⟨#[123, 123, 34]⟩ ++ t) ++ ⟨#[34, 125, 125]⟩) ++ ⟨#[34, 125, 125]⟩).size ≤ 30 := by
        rw [ByteArray.size_append, ByteArray.size_append, ByteArray.size_append]; show 3 + t.size + 3 + 3 ≤ 30; omega
      have cT := Split_any (((⟨#[123, 123, 34]⟩ ++ t) ++ ⟨#[34, 125, 125]⟩) ++ ⟨#[34, 125, 125]⟩) w1 (by unfold maxLen; omega) (HM.out.below HB.out)
      unfold SplitPost at cT
      rw [hbytes, HF.out] at cT
      have HC := Lib.hid cT; have HJ := Lib.hid hts; have HJ2 := Lib.hid hjn
      clear cT ht HF HM HK HA hts hjn hbytes
      go_wp2_with fail
      (with_reducible refine HC.out.mono ?_); rintro e w2 ⟨hb2, v, rfl, ho⟩
      obtain ⟨g, cap, rfl, hgb, hgw⟩ := row_some ho (by simp)
      have r0 := (row_at ho 0 (by simp)).2.1
      have r0' : w2.cell? ⟨g, 1, none⟩ = some (.string ⟨(qa n).toArray⟩) := r0
      have tz : (((⟨(qa n).toArray⟩ : ByteArray).size : Int) == (n : Int) + 2) = true := by
        have : (⟨(qa n).toArray⟩ : ByteArray).size = n + 2 := by show (qa n).length = _; simp [qa]
        rw [this]; simp
      generalize (⟨(qa n).toArray⟩ : ByteArray) = xb at *
      have r1 := (row_at ho 1 (by simp)).1
      have r1' : w2.cell? ⟨g, 3, none⟩ = some (.bool false) := r1
      have r2 := (row_at ho 1 (by simp)).2.1
      have r2' : w2.cell? ⟨g, 4, none⟩ = some (.string ⟨#[34, 125, 125]⟩) := r2
      clear r1 r2
      have HB2 := Lib.hid hb2
      clear ho hb2 HC r0
      go_wp2
      go_ret
      exact ⟨rfl, HB.out.trans (HB2.out.mono HB.out.size)⟩

set_option maxRecDepth 100000 in
set_option maxHeartbeats 2000000 in
theorem quotes_c1 (a : Int) (n : Nat) (hn : a % 12 = n) (hp : n % 2 = 1) (w : World) (hM : MaxTab w) (ha1 : -9223372036854775808 ≤ a) (ha2 : a ≤ 9223372036854775807) :
    Calls Try.prog 6 #[.int .i64 a, .bool true] w fun e w' => e = .returned (.bool true) ∧ Below w.heap.size w w' := by
  have hn0 := Int.emod_nonneg a (show (12 : Int) ≠ 0 by omega)
  have hn4 := Int.emod_lt_of_pos a (show (0 : Int) < 12 by omega)
  have cK := known_any w hM
  have cA := fun w => within_any a 12 w (by omega) (by omega) ha1 ha2
  rw [hn] at cA hn0 hn4
  have hf := q_odd2 n (by omega) hp
  have tp : ((n : Int) % 2 == 0) = false := by simp; omega
  have hn12 : n < 12 := by omega
  have HM := Lib.hid hM; have HK := Lib.hid cK; have HA := Lib.hid cA; have HF := Lib.hid hf
  clear hM cK cA hf hn ha1 ha2 hp
  go_enter Try.func6, Try.ntmps6
  go_wp2_with (first
    | (go_at_call 9; (with_reducible refine HK.out.mono ?_); rintro e w1 ⟨rfl, hb⟩)
    | (go_at_call 13; (with_reducible refine (HA.out _).mono ?_); rintro e w' ⟨rfl, rfl⟩))
  have HB : Hid (Below w.heap.size w w1) := hb
  clear hb
  go_loop [5, 6] (fun sv k => ∃ (j : Nat) (t : ByteArray), j ≤ n ∧ k = .int .i64 j ∧ sv = .string t ∧ t.size = j ∧ Hid (t.data.toList = [] ++ List.replicate j 92)) (fun _ k => n - (intOf k).toNat)
  case atStart => exact ⟨0, _, by omega, rfl, rfl, rfl, rfl⟩
  case round =>
    obtain ⟨j, t, hj, rfl, rfl, hts, ht⟩ := hrel
    by_cases hlt : j < n
    · go_wp2
      go_round
      case rel =>
        refine ⟨j + 1, _, by omega, by go_num, rfl, ?_, ?_⟩
        · rw [ByteArray.size_append, hts]; rfl
        · unfold Hid; rw [cat_bytes, ht.out]; exact (rep_snoc _ _ _).symm
      case measure => simp [intOf]; omega
    · have hjn : j = n := by omega
      have hbytes : (((⟨#[123, 123, 34]⟩ ++ t) ++ ⟨#[34, 125, 125]⟩) ++ ⟨#[34, 125, 125]⟩).data.toList = q2 n := by
        rw [cat_bytes, cat_bytes, cat_bytes, ht.out, hjn, List.nil_append]; rfl
      have hsz : t.size ≤ 12 := by omega
      have hsz2 : (((⟨#[123, 123, 34]⟩ ++ t) ++ ⟨#[34, 125, 125]⟩) ++ ⟨#[34, 125, 125]⟩).size ≤ 30 := by
        rw [ByteArray.size_append, ByteArray.size_append, ByteArray.size_append]; show 3 + t.size + 3 + 3 ≤ 30; omega
      have cT := Split_any (((⟨#[123, 123, 34]⟩ ++ t) ++ ⟨#[34, 125, 125]⟩) ++ ⟨#[34, 125, 125]⟩) w1 (by unfold maxLen; omega) (HM.out.below HB.out)
      unfold SplitPost at cT
      rw [hbytes, HF.out] at cT
      have HC := Lib.hid cT; have HJ := Lib.hid hts; have HJ2 := Lib.hid hjn
      clear cT ht HF HM HK HA hts hjn hbytes
      go_wp2_with fail
      (with_reducible refine HC.out.mono ?_); rintro e w2 ⟨hb2, v, rfl, ho⟩
      obtain ⟨g, cap, rfl, hgb, hgw⟩ := row_some ho (by simp)
      have r0 := (row_at ho 0 (by simp)).2.1
      have r0' : w2.cell? ⟨g, 1, none⟩ = some (.string ⟨(qb n).toArray⟩) := r0
      have tz : (((⟨(qb n).toArray⟩ : ByteArray).size : Int) == (n : Int) + 5) = true := by
        have : (⟨(qb n).toArray⟩ : ByteArray).size = n + 5 := by show (qb n).length = _; simp [qb]
        rw [this]; simp
      generalize (⟨(qb n).toArray⟩ : ByteArray) = xb at *
      have HB2 := Lib.hid hb2
      clear ho hb2 HC r0
      go_wp2
      go_ret
      exact ⟨rfl, HB.out.trans (HB2.out.mono HB.out.size)⟩

theorem quotes_any (a : Int) (b : Bool) (w : World) (hM : MaxTab w) (ha1 : -9223372036854775808 ≤ a) (ha2 : a ≤ 9223372036854775807) :
    Calls Try.prog 6 #[.int .i64 a, .bool b] w fun e w' => e = .returned (.bool true) ∧ Below w.heap.size w w' := by
  have hn0 := Int.emod_nonneg a (show (12 : Int) ≠ 0 by omega)
  obtain ⟨n, hn⟩ : ∃ n : Nat, a % 12 = n := ⟨(a % 12).toNat, by omega⟩
  cases b with
  | true =>
    by_cases h : n % 2 = 0
    · exact quotes_c0 a n hn h w hM ha1 ha2
    · exact quotes_c1 a n hn (by omega) w hM ha1 ha2
  | false =>
    by_cases h : n % 2 = 0
    · exact quotes_o0 a n hn h w hM ha1 ha2
    · exact quotes_o1 a n hn (by omega) w hM ha1 ha2
end Tx
end Go.Proofs.Ytjcmfgloojgknaa
