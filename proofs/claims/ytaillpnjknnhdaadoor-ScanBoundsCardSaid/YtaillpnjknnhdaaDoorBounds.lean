/- ScanBounds: the walk. Written by gen_bounds.py. -/
import Derived.Test.YtaillpnjknnhdaaDoorBoundsP
namespace Go.Proofs.YtaillpnjknnhdaaDoor
open Go.RowKit
namespace Sc

theorem cat_bytes (a b : ByteArray) : (a ++ b).data.toList = a.data.toList ++ b.data.toList := by
  rw [ByteArray.data_append, Array.toList_append]
theorem rep_snoc (p : List UInt8) (j : Nat) (u : UInt8) : p ++ List.replicate (j + 1) u = (p ++ List.replicate j u) ++ [u] := by
  rw [List.replicate_succ', List.append_assoc]

set_option maxRecDepth 100000 in
set_option maxHeartbeats 2000000 in
theorem bounds_0 (a b : Int) (w : World) (hT : Tabs w) (ha1 : -9223372036854775808 ≤ a) (ha2 : a ≤ 9223372036854775807) (hb1 : -9223372036854775808 ≤ b) (hb2 : b ≤ 9223372036854775807) (hq : a % 4 = 0) :
    Calls Tryd.prog 5 #[.int .i64 a, .int .i64 b] w fun e w' => e = .returned (.bool true) ∧ Below w.heap.size w w' := by
  have hn0 := Int.emod_nonneg b (show (4 : Int) ≠ 0 by omega)
  have hn4 := Int.emod_lt_of_pos b (show (0 : Int) < 4 by omega)
  have cK := known_any w hT
  have cA := fun w => within_any a 4 w (by omega) (by omega) ha1 ha2
  have cB := fun w => within_any b 4 w (by omega) (by omega) hb1 hb2
  rw [hq] at cA
  obtain ⟨n, hn⟩ : ∃ n : Nat, b % 4 = n := ⟨(b % 4).toNat, by omega⟩
  rw [hn] at cB hn0 hn4
  have hf := fin0 n (by omega)
  have HT := Lib.hid hT; have HK := Lib.hid cK; have HA := Lib.hid cA; have HB := Lib.hid cB; have HF := Lib.hid hf
  clear hT cK cA cB hf hn hq ha1 ha2 hb1 hb2
  go_enter Tryd.func5, Tryd.ntmps5
  go_wp2_with (go_at_call 12; (with_reducible refine HK.out.mono ?_); rintro e w1 ⟨rfl, hb⟩)
  go_wp2_with fail
  (with_reducible refine (HB.out _).mono ?_); rintro e w' ⟨rfl, rfl⟩
  go_wp2_with fail
  (with_reducible refine (HA.out _).mono ?_); rintro e w' ⟨rfl, rfl⟩
  go_wp2
  go_loop [5, 9] (fun sv k => ∃ (j : Nat) (t : ByteArray), j ≤ 1499 + n ∧ k = .int .i64 j ∧ sv = .string t ∧ t.size = 0 + j ∧ Hid (t.data.toList = [] ++ List.replicate j 32)) (fun _ k => 1499 + n - (intOf k).toNat)
  case atStart => exact ⟨0, _, by omega, rfl, rfl, rfl, rfl⟩
  case round =>
    obtain ⟨j, t, hj, rfl, rfl, hts, ht⟩ := hrel
    by_cases hlt : j < 1499 + n
    · go_wp2
      go_round
      case rel =>
        refine ⟨j + 1, _, by omega, by go_num, rfl, ?_, ?_⟩
        · rw [ByteArray.size_append, hts, Nat.add_assoc]; rfl
        · unfold Hid; rw [cat_bytes, ht.out]; exact (rep_snoc _ _ _).symm
      case measure => simp [intOf]; omega
    · obtain rfl : j = 1499 + n := by omega
      have t0 : 0 < t.size := by omega
      have hx : t[0]'t0 = 32 := by
        have h1 := bytes_at t 0 t0
        rw [← h1]
        have h2 : ∀ (l : List UInt8) (h : 0 < l.length), l = [] ++ List.replicate (1499 + n) 32 → l[0] = 32 := by
          intro l h e; subst e; simp
        exact h2 _ (lt_len t0) ht.out
      have hres : (toks t.data.toList).1 = if n ≤ 1 then 0 else 4 := by have := HF.out; rw [List.append_nil] at this; rw [ht.out]; exact this
      have hb' : Below w.heap.size w w1 := hb
      have cT := Tokens_any t w1 (by unfold maxLen; omega) (HT.out.below hb').1 (HT.out.below hb').2
      unfold ToksPost at cT
      rw [hres] at cT
      have hsz : t.size ≤ 2000 := by omega
      have HC := Lib.hid cT; have HX := Lib.hid hres
      clear cT hres ht HF HT HK HA HB
      by_cases hn1 : n ≤ 1
      · have HC' := HC.out; rw [if_pos hn1] at HC'
        have HC2 := Lib.hid HC'; clear HC HC' HX
        go_wp2_with (go_at_call 15; (with_reducible refine HC2.out.mono ?_); rintro e w2 ⟨hb2, v, rfl, _⟩)
        go_ret
        exact ⟨rfl, hb'.trans (hb2.mono hb'.size)⟩
      · have HC' := HC.out; rw [if_neg hn1] at HC'
        have HC2 := Lib.hid HC'; clear HC HC' HX
        go_wp2_with (go_at_call 15; (with_reducible refine HC2.out.mono ?_); rintro e w2 ⟨hb2, v, rfl, _⟩)
        go_ret
        exact ⟨rfl, hb'.trans (hb2.mono hb'.size)⟩

set_option maxRecDepth 100000 in
set_option maxHeartbeats 2000000 in
theorem bounds_1 (a b : Int) (w : World) (hT : Tabs w) (ha1 : -9223372036854775808 ≤ a) (ha2 : a ≤ 9223372036854775807) (hb1 : -9223372036854775808 ≤ b) (hb2 : b ≤ 9223372036854775807) (hq : a % 4 = 1) :
    Calls Tryd.prog 5 #[.int .i64 a, .int .i64 b] w fun e w' => e = .returned (.bool true) ∧ Below w.heap.size w w' := by
  have hn0 := Int.emod_nonneg b (show (4 : Int) ≠ 0 by omega)
  have hn4 := Int.emod_lt_of_pos b (show (0 : Int) < 4 by omega)
  have cK := known_any w hT
  have cA := fun w => within_any a 4 w (by omega) (by omega) ha1 ha2
  have cB := fun w => within_any b 4 w (by omega) (by omega) hb1 hb2
  rw [hq] at cA
  obtain ⟨n, hn⟩ : ∃ n : Nat, b % 4 = n := ⟨(b % 4).toNat, by omega⟩
  rw [hn] at cB hn0 hn4
  have hf := fin1 n (by omega)
  have HT := Lib.hid hT; have HK := Lib.hid cK; have HA := Lib.hid cA; have HB := Lib.hid cB; have HF := Lib.hid hf
  clear hT cK cA cB hf hn hq ha1 ha2 hb1 hb2
  go_enter Tryd.func5, Tryd.ntmps5
  go_wp2_with (go_at_call 12; (with_reducible refine HK.out.mono ?_); rintro e w1 ⟨rfl, hb⟩)
  go_wp2_with fail
  (with_reducible refine (HB.out _).mono ?_); rintro e w' ⟨rfl, rfl⟩
  go_wp2_with fail
  (with_reducible refine (HA.out _).mono ?_); rintro e w' ⟨rfl, rfl⟩
  go_wp2
  go_loop [5, 9] (fun sv k => ∃ (j : Nat) (t : ByteArray), j ≤ 15 + n ∧ k = .int .i64 j ∧ sv = .string t ∧ t.size = 0 + j ∧ Hid (t.data.toList = [] ++ List.replicate j 113)) (fun _ k => 15 + n - (intOf k).toNat)
  case atStart => exact ⟨0, _, by omega, rfl, rfl, rfl, rfl⟩
  case round =>
    obtain ⟨j, t, hj, rfl, rfl, hts, ht⟩ := hrel
    by_cases hlt : j < 15 + n
    · go_wp2
      go_round
      case rel =>
        refine ⟨j + 1, _, by omega, by go_num, rfl, ?_, ?_⟩
        · rw [ByteArray.size_append, hts, Nat.add_assoc]; rfl
        · unfold Hid; rw [cat_bytes, ht.out]; exact (rep_snoc _ _ _).symm
      case measure => simp [intOf]; omega
    · obtain rfl : j = 15 + n := by omega
      have t0 : 0 < t.size := by omega
      have hx : t[0]'t0 = 113 := by
        have h1 := bytes_at t 0 t0
        rw [← h1]
        have h2 : ∀ (l : List UInt8) (h : 0 < l.length), l = [] ++ List.replicate (15 + n) 113 → l[0] = 113 := by
          intro l h e; subst e; simp
        exact h2 _ (lt_len t0) ht.out
      have hres : (toks t.data.toList).1 = if n ≤ 1 then 0 else 4 := by have := HF.out; rw [List.append_nil] at this; rw [ht.out]; exact this
      have hb' : Below w.heap.size w w1 := hb
      have cT := Tokens_any t w1 (by unfold maxLen; omega) (HT.out.below hb').1 (HT.out.below hb').2
      unfold ToksPost at cT
      rw [hres] at cT
      have hsz : t.size ≤ 2000 := by omega
      have HC := Lib.hid cT; have HX := Lib.hid hres
      clear cT hres ht HF HT HK HA HB
      by_cases hn1 : n ≤ 1
      · have HC' := HC.out; rw [if_pos hn1] at HC'
        have HC2 := Lib.hid HC'; clear HC HC' HX
        go_wp2_with (go_at_call 15; (with_reducible refine HC2.out.mono ?_); rintro e w2 ⟨hb2, v, rfl, _⟩)
        go_ret
        exact ⟨rfl, hb'.trans (hb2.mono hb'.size)⟩
      · have HC' := HC.out; rw [if_neg hn1] at HC'
        have HC2 := Lib.hid HC'; clear HC HC' HX
        go_wp2_with (go_at_call 15; (with_reducible refine HC2.out.mono ?_); rintro e w2 ⟨hb2, v, rfl, _⟩)
        go_ret
        exact ⟨rfl, hb'.trans (hb2.mono hb'.size)⟩

set_option maxRecDepth 100000 in
set_option maxHeartbeats 2000000 in
theorem bounds_2 (a b : Int) (w : World) (hT : Tabs w) (ha1 : -9223372036854775808 ≤ a) (ha2 : a ≤ 9223372036854775807) (hb1 : -9223372036854775808 ≤ b) (hb2 : b ≤ 9223372036854775807) (hq : a % 4 = 2) :
    Calls Tryd.prog 5 #[.int .i64 a, .int .i64 b] w fun e w' => e = .returned (.bool true) ∧ Below w.heap.size w w' := by
  have hn0 := Int.emod_nonneg b (show (4 : Int) ≠ 0 by omega)
  have hn4 := Int.emod_lt_of_pos b (show (0 : Int) < 4 by omega)
  have cK := known_any w hT
  have cA := fun w => within_any a 4 w (by omega) (by omega) ha1 ha2
  have cB := fun w => within_any b 4 w (by omega) (by omega) hb1 hb2
  rw [hq] at cA
  obtain ⟨n, hn⟩ : ∃ n : Nat, b % 4 = n := ⟨(b % 4).toNat, by omega⟩
  rw [hn] at cB hn0 hn4
  have hf := fin2 n (by omega)
  have HT := Lib.hid hT; have HK := Lib.hid cK; have HA := Lib.hid cA; have HB := Lib.hid cB; have HF := Lib.hid hf
  clear hT cK cA cB hf hn hq ha1 ha2 hb1 hb2
  go_enter Tryd.func5, Tryd.ntmps5
  go_wp2_with (go_at_call 12; (with_reducible refine HK.out.mono ?_); rintro e w1 ⟨rfl, hb⟩)
  go_wp2_with fail
  (with_reducible refine (HB.out _).mono ?_); rintro e w' ⟨rfl, rfl⟩
  go_wp2_with fail
  (with_reducible refine (HA.out _).mono ?_); rintro e w' ⟨rfl, rfl⟩
  go_wp2
  go_loop [5, 9] (fun sv k => ∃ (j : Nat) (t : ByteArray), j ≤ 399 + n ∧ k = .int .i64 j ∧ sv = .string t ∧ t.size = 0 + j ∧ Hid (t.data.toList = [] ++ List.replicate j 44)) (fun _ k => 399 + n - (intOf k).toNat)
  case atStart => exact ⟨0, _, by omega, rfl, rfl, rfl, rfl⟩
  case round =>
    obtain ⟨j, t, hj, rfl, rfl, hts, ht⟩ := hrel
    by_cases hlt : j < 399 + n
    · go_wp2
      go_round
      case rel =>
        refine ⟨j + 1, _, by omega, by go_num, rfl, ?_, ?_⟩
        · rw [ByteArray.size_append, hts, Nat.add_assoc]; rfl
        · unfold Hid; rw [cat_bytes, ht.out]; exact (rep_snoc _ _ _).symm
      case measure => simp [intOf]; omega
    · obtain rfl : j = 399 + n := by omega
      have t0 : 0 < t.size := by omega
      have hx : t[0]'t0 = 44 := by
        have h1 := bytes_at t 0 t0
        rw [← h1]
        have h2 : ∀ (l : List UInt8) (h : 0 < l.length), l = [] ++ List.replicate (399 + n) 44 → l[0] = 44 := by
          intro l h e; subst e; simp
        exact h2 _ (lt_len t0) ht.out
      have hres : (toks t.data.toList).1 = if n ≤ 1 then 0 else 3 := by have := HF.out; rw [List.append_nil] at this; rw [ht.out]; exact this
      have hb' : Below w.heap.size w w1 := hb
      have cT := Tokens_any t w1 (by unfold maxLen; omega) (HT.out.below hb').1 (HT.out.below hb').2
      unfold ToksPost at cT
      rw [hres] at cT
      have hsz : t.size ≤ 2000 := by omega
      have HC := Lib.hid cT; have HX := Lib.hid hres
      clear cT hres ht HF HT HK HA HB
      by_cases hn1 : n ≤ 1
      · have HC' := HC.out; rw [if_pos hn1] at HC'
        have HC2 := Lib.hid HC'; clear HC HC' HX
        go_wp2_with (go_at_call 15; (with_reducible refine HC2.out.mono ?_); rintro e w2 ⟨hb2, v, rfl, _⟩)
        go_ret
        exact ⟨rfl, hb'.trans (hb2.mono hb'.size)⟩
      · have HC' := HC.out; rw [if_neg hn1] at HC'
        have HC2 := Lib.hid HC'; clear HC HC' HX
        go_wp2_with (go_at_call 15; (with_reducible refine HC2.out.mono ?_); rintro e w2 ⟨hb2, v, rfl, _⟩)
        go_ret
        exact ⟨rfl, hb'.trans (hb2.mono hb'.size)⟩

set_option maxRecDepth 100000 in
set_option maxHeartbeats 2000000 in
theorem bounds_3 (a b : Int) (w : World) (hT : Tabs w) (ha1 : -9223372036854775808 ≤ a) (ha2 : a ≤ 9223372036854775807) (hb1 : -9223372036854775808 ≤ b) (hb2 : b ≤ 9223372036854775807) (hq : a % 4 = 3) :
    Calls Tryd.prog 5 #[.int .i64 a, .int .i64 b] w fun e w' => e = .returned (.bool true) ∧ Below w.heap.size w w' := by
  have hn0 := Int.emod_nonneg b (show (4 : Int) ≠ 0 by omega)
  have hn4 := Int.emod_lt_of_pos b (show (0 : Int) < 4 by omega)
  have cK := known_any w hT
  have cA := fun w => within_any a 4 w (by omega) (by omega) ha1 ha2
  have cB := fun w => within_any b 4 w (by omega) (by omega) hb1 hb2
  rw [hq] at cA
  obtain ⟨n, hn⟩ : ∃ n : Nat, b % 4 = n := ⟨(b % 4).toNat, by omega⟩
  rw [hn] at cB hn0 hn4
  have hf := fin3 n (by omega)
  have HT := Lib.hid hT; have HK := Lib.hid cK; have HA := Lib.hid cA; have HB := Lib.hid cB; have HF := Lib.hid hf
  clear hT cK cA cB hf hn hq ha1 ha2 hb1 hb2
  go_enter Tryd.func5, Tryd.ntmps5
  go_wp2_with (go_at_call 12; (with_reducible refine HK.out.mono ?_); rintro e w1 ⟨rfl, hb⟩)
  go_wp2_with fail
  (with_reducible refine (HB.out _).mono ?_); rintro e w' ⟨rfl, rfl⟩
  go_wp2_with fail
  (with_reducible refine (HA.out _).mono ?_); rintro e w' ⟨rfl, rfl⟩
  go_wp2
  go_loop [5, 9] (fun sv k => ∃ (j : Nat) (t : ByteArray), j ≤ 199 + n ∧ k = .int .i64 j ∧ sv = .string t ∧ t.size = 1 + j ∧ Hid (t.data.toList = [34] ++ List.replicate j 122)) (fun _ k => 199 + n - (intOf k).toNat)
  case atStart => exact ⟨0, _, by omega, rfl, rfl, rfl, rfl⟩
  case round =>
    obtain ⟨j, t, hj, rfl, rfl, hts, ht⟩ := hrel
    by_cases hlt : j < 199 + n
    · go_wp2
      go_round
      case rel =>
        refine ⟨j + 1, _, by omega, by go_num, rfl, ?_, ?_⟩
        · rw [ByteArray.size_append, hts, Nat.add_assoc]; rfl
        · unfold Hid; rw [cat_bytes, ht.out]; exact (rep_snoc _ _ _).symm
      case measure => simp [intOf]; omega
    · obtain rfl : j = 199 + n := by omega
      have t0 : 0 < t.size := by omega
      have hx : t[0]'t0 = 34 := by
        have h1 := bytes_at t 0 t0
        rw [← h1]
        have h2 : ∀ (l : List UInt8) (h : 0 < l.length), l = [34] ++ List.replicate (199 + n) 122 → l[0] = 34 := by
          intro l h e; subst e; simp
        exact h2 _ (lt_len t0) ht.out
      have hres : (toks (t ++ ⟨#[34]⟩).data.toList).1 = if n ≤ 1 then 0 else 4 := by rw [cat_bytes, ht.out]; exact HF.out
      have hb' : Below w.heap.size w w1 := hb
      have cT := Tokens_any (t ++ ⟨#[34]⟩) w1 (by rw [ByteArray.size_append]; unfold maxLen; show t.size + 1 ≤ _; omega) (HT.out.below hb').1 (HT.out.below hb').2
      unfold ToksPost at cT
      rw [hres] at cT
      have hsz : t.size ≤ 2000 := by omega
      have HC := Lib.hid cT; have HX := Lib.hid hres
      clear cT hres ht HF HT HK HA HB
      by_cases hn1 : n ≤ 1
      · have HC' := HC.out; rw [if_pos hn1] at HC'
        have HC2 := Lib.hid HC'; clear HC HC' HX
        go_wp2_with (go_at_call 15; (with_reducible refine HC2.out.mono ?_); rintro e w2 ⟨hb2, v, rfl, _⟩)
        go_ret
        exact ⟨rfl, hb'.trans (hb2.mono hb'.size)⟩
      · have HC' := HC.out; rw [if_neg hn1] at HC'
        have HC2 := Lib.hid HC'; clear HC HC' HX
        go_wp2_with (go_at_call 15; (with_reducible refine HC2.out.mono ?_); rintro e w2 ⟨hb2, v, rfl, _⟩)
        go_ret
        exact ⟨rfl, hb'.trans (hb2.mono hb'.size)⟩

theorem bounds_any (a b : Int) (w : World) (hT : Tabs w) (ha1 : -9223372036854775808 ≤ a) (ha2 : a ≤ 9223372036854775807) (hb1 : -9223372036854775808 ≤ b) (hb2 : b ≤ 9223372036854775807) :
    Calls Tryd.prog 5 #[.int .i64 a, .int .i64 b] w fun e w' => e = .returned (.bool true) ∧ Below w.heap.size w w' := by
  have h1 := Int.emod_nonneg a (show (4 : Int) ≠ 0 by omega)
  have h2 := Int.emod_lt_of_pos a (show (0 : Int) < 4 by omega)
  by_cases h : a % 4 = 0
  · exact bounds_0 a b w hT ha1 ha2 hb1 hb2 h
  by_cases h : a % 4 = 1
  · exact bounds_1 a b w hT ha1 ha2 hb1 hb2 h
  by_cases h : a % 4 = 2
  · exact bounds_2 a b w hT ha1 ha2 hb1 hb2 h
  · exact bounds_3 a b w hT ha1 ha2 hb1 hb2 (by omega)
end Sc
end Go.Proofs.YtaillpnjknnhdaaDoor
