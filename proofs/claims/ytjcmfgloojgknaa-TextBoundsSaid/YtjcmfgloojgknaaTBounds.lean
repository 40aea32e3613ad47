/- TextBounds: the pure part and the walk. -/
import Derived.Test.YtjcmfgloojgknaaTLaw
namespace Go.Proofs.Ytjcmfgloojgknaa
open Go.RowKit
namespace Tx

def quad (j : Nat) : List UInt8 := (List.replicate j [123, 123, 125, 125]).flatten
theorem quad_snoc (j : Nat) : quad (j + 1) = quad j ++ [123, 123, 125, 125] := by
  unfold quad; rw [List.replicate_succ', List.flatten_append]; simp
theorem quad_cons (j : Nat) : quad (j + 1) = 123 :: 123 :: 125 :: 125 :: quad j := by
  unfold quad; rw [List.replicate_succ]; simp
theorem quad_len (j : Nat) : (quad j).length = 4 * j := by
  induction j with
  | zero => rfl
  | succ j ih => rw [quad_cons]; simp [ih]; omega
theorem quad_raw : ∀ (j i : Nat), ∃ ps, rawW (quad j) i = some ps ∧ ps.length = j
  | 0, i => ⟨[], rfl, rfl⟩
  | j + 1, i => by
    have hp : partL (quad (j + 1)) = some (true, [], 4) := by
      rw [quad_cons, partL_some _ (by simp [two]) 0 (by simp [insF, two])]; rfl
    obtain ⟨ps, h1, h2⟩ := quad_raw j (i + 4)
    rw [raw_some _ i (by rw [quad_len]; omega) _ _ _ hp]
    have : (quad (j + 1)).drop 4 = quad j := by rw [quad_cons]; rfl
    rw [this, h1]
    exact ⟨⟨true, [], i⟩ :: ps, rfl, by simp [h2]⟩
theorem quad_fin (n : Nat) (h : n ≤ 3) : (splitL (quad (199 + n))).1 = if n ≤ 1 then 0 else 3 := by
  obtain ⟨ps, h1, h2⟩ := quad_raw (199 + n) 0
  unfold splitL
  rw [quad_len, if_neg (by omega), h1]
  simp only [splitOf]
  by_cases h3 : n ≤ 1
  · rw [if_neg (show ¬ 200 < ps.length by omega), if_pos h3]
  · rw [if_pos (show 200 < ps.length by omega), if_neg h3]

theorem idx_rep (m : Nat) : idx2 (List.replicate m 120) = m := by
  induction m with
  | zero => rfl
  | succ m ih => rw [List.replicate_succ, idx_step _ _ (two_ne _ _ _ (by decide)), ih]
theorem xs_fin (n : Nat) (h : n ≤ 3) : (splitL (List.replicate (1499 + n) 120)).1 = if n ≤ 1 then 0 else 4 := by
  unfold splitL
  rw [List.length_replicate]
  by_cases h3 : n ≤ 1
  · rw [if_neg (by omega), if_pos h3]
    have hp := partL_text (List.replicate (1499 + n) 120) (by rw [show 1499 + n = (1498 + n) + 1 by omega, List.replicate_succ]; exact two_ne _ _ _ (by decide))
    rw [idx_rep] at hp
    rw [raw_some _ 0 (by rw [List.length_replicate]; omega) _ _ _ hp, List.drop_of_length_le (by rw [List.length_replicate]; exact Nat.le_refl _), raw_nil]
    rfl
  · rw [if_pos (by omega), if_neg h3]

set_option maxRecDepth 100000 in
set_option maxHeartbeats 2000000 in
theorem bounds_any (a : Int) (b : Bool) (w : World) (hM : MaxTab w) (ha1 : -9223372036854775808 ≤ a) (ha2 : a ≤ 9223372036854775807) :
    Calls Try.prog 5 #[.int .i64 a, .bool b] w fun e w' => e = .returned (.bool true) ∧ Below w.heap.size w w' := by
  have hn0 := Int.emod_nonneg a (show (4 : Int) ≠ 0 by omega)
  have hn4 := Int.emod_lt_of_pos a (show (0 : Int) < 4 by omega)
  have cK := known_any w hM
  have cA := fun w => within_any a 4 w (by omega) (by omega) ha1 ha2
  obtain ⟨n, hn⟩ : ∃ n : Nat, a % 4 = n := ⟨(a % 4).toNat, by omega⟩
  rw [hn] at cA hn0 hn4
  have hf1 := quad_fin n (by omega)
  have hf2 := xs_fin n (by omega)
  have HM := Lib.hid hM; have HK := Lib.hid cK; have HA := Lib.hid cA; have HF1 := Lib.hid hf1; have HF2 := Lib.hid hf2
  clear hM cK cA hf1 hf2 hn ha1 ha2
  cases b with
  | true =>
    go_enter Try.func5, Try.ntmps5
    go_wp2_with (first
      | (go_at_call 9; (with_reducible refine HK.out.mono ?_); rintro e w1 ⟨rfl, hb⟩)
      | (go_at_call 13; (with_reducible refine (HA.out _).mono ?_); rintro e w' ⟨rfl, rfl⟩))
    have HB : Hid (Below w.heap.size w w1) := hb
    clear hb
    go_loop [5, 7] (fun sv k => ∃ (j : Nat) (t : ByteArray), j ≤ 199 + n ∧ k = .int .i64 j ∧ sv = .string t ∧ t.size = 4 * j ∧ Hid (t.data.toList = quad j)) (fun _ k => 199 + n - (intOf k).toNat)
    case atStart => exact ⟨0, _, by omega, rfl, rfl, rfl, rfl⟩
    case round =>
      obtain ⟨j, t, hj, rfl, rfl, hts, ht⟩ := hrel
      by_cases hlt : j < 199 + n
      · go_wp2
        go_round
        case rel =>
          refine ⟨j + 1, _, by omega, by go_num, rfl, ?_, ?_⟩
          · rw [ByteArray.size_append, hts]; show 4 * j + 4 = _; omega
          · unfold Hid; rw [cat_bytes, ht.out]; exact (quad_snoc _).symm
        case measure => simp [intOf]; omega
      · obtain rfl : j = 199 + n := by omega
        have cT := Split_any t w1 (by unfold maxLen; omega) (HM.out.below HB.out)
        unfold SplitPost at cT
        rw [ht.out, HF1.out] at cT
        have hsz : t.size ≤ 2000 := by omega
        have HC := Lib.hid cT
        clear cT ht HF1 HF2 HM HK HA
        by_cases hn1 : n ≤ 1
        · have HC' := HC.out; rw [if_pos hn1] at HC'
          have HC2 := Lib.hid HC'; clear HC HC'
          go_wp2_with (go_at_call 11; (with_reducible refine HC2.out.mono ?_); rintro e w2 ⟨hb2, v, rfl, _⟩)
          go_ret
          exact ⟨rfl, HB.out.trans (hb2.mono HB.out.size)⟩
        · have HC' := HC.out; rw [if_neg hn1] at HC'
          have HC2 := Lib.hid HC'; clear HC HC'
          go_wp2_with (go_at_call 11; (with_reducible refine HC2.out.mono ?_); rintro e w2 ⟨hb2, v, rfl, _⟩)
          go_ret
          exact ⟨rfl, HB.out.trans (hb2.mono HB.out.size)⟩
  | false =>
    go_enter Try.func5, Try.ntmps5
    go_wp2_with (first
      | (go_at_call 9; (with_reducible refine HK.out.mono ?_); rintro e w1 ⟨rfl, hb⟩)
      | (go_at_call 13; (with_reducible refine (HA.out _).mono ?_); rintro e w' ⟨rfl, rfl⟩))
    have HB : Hid (Below w.heap.size w w1) := hb
    clear hb
    go_loop [5, 8] (fun sv k => ∃ (j : Nat) (t : ByteArray), j ≤ 1499 + n ∧ k = .int .i64 j ∧ sv = .string t ∧ t.size = j ∧ Hid (t.data.toList = [] ++ List.replicate j 120)) (fun _ k => 1499 + n - (intOf k).toNat)
    case atStart => exact ⟨0, _, by omega, rfl, rfl, rfl, rfl⟩
    case round =>
      obtain ⟨j, t, hj, rfl, rfl, hts, ht⟩ := hrel
      by_cases hlt : j < 1499 + n
      · go_wp2
        go_round
        case rel =>
          refine ⟨j + 1, _, by omega, by go_num, rfl, ?_, ?_⟩
          · rw [ByteArray.size_append, hts]; rfl
          · unfold Hid; rw [cat_bytes, ht.out]; exact (rep_snoc _ _ _).symm
        case measure => simp [intOf]; omega
      · have hjn : j = 1499 + n := by omega
        have cT := Split_any t w1 (by unfold maxLen; omega) (HM.out.below HB.out)
        unfold SplitPost at cT
        rw [ht.out, hjn, List.nil_append, HF2.out] at cT
        have hsz : t.size ≤ 2000 := by omega
        have HC := Lib.hid cT; have HJ := Lib.hid hts; have HJ2 := Lib.hid hjn
        clear cT ht HF1 HF2 HM HK HA hts hjn
        by_cases hn1 : n ≤ 1
        · have HC' := HC.out; rw [if_pos hn1] at HC'
          have HC2 := Lib.hid HC'; clear HC HC'
          go_wp2_with (go_at_call 11; (with_reducible refine HC2.out.mono ?_); rintro e w2 ⟨hb2, v, rfl, _⟩)
          go_ret
          exact ⟨rfl, HB.out.trans (hb2.mono HB.out.size)⟩
        · have HC' := HC.out; rw [if_neg hn1] at HC'
          have HC2 := Lib.hid HC'; clear HC HC'
          go_wp2_with (go_at_call 11; (with_reducible refine HC2.out.mono ?_); rintro e w2 ⟨hb2, v, rfl, _⟩)
          go_ret
          exact ⟨rfl, HB.out.trans (hb2.mono HB.out.size)⟩
end Tx
end Go.Proofs.Ytjcmfgloojgknaa
