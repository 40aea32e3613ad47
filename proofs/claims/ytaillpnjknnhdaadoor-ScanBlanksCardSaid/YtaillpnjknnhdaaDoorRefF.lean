/- next of package sprueref1, at numbers: what each call returns; nothing that was there turns. Written by gen_reff.py. -/
import Derived.Test.YtaillpnjknnhdaaDoorRefE
namespace Go.Proofs.YtaillpnjknnhdaaDoor
open Go.RowKit
namespace Sc

theorem rletter_b (c : UInt8) (w : World) : Calls Tryd.prog 25 #[.int .u8 c.toNat] w fun e w' => e = .returned (.bool (isL c)) ∧ w = w' := by
  have := rletter_any (c.toNat : Int) w; rw [letB_byte] at this; exact this
theorem rdigit_b (c : UInt8) (w : World) : Calls Tryd.prog 26 #[.int .u8 c.toNat] w fun e w' => e = .returned (.bool (isD c)) ∧ w = w' := by
  have := rdigit_any (c.toNat : Int) w; rw [digB_byte] at this; exact this
theorem dig_not_let (c : UInt8) (h : isD c = true) : isL c = false := by
  unfold isD at h; simp only [Bool.and_eq_true, decide_eq_true_eq] at h
  unfold isL; simp; omega

set_option maxRecDepth 100000 in
set_option maxHeartbeats 4000000 in
theorem next_num (s : ByteArray) (i : Nat) (w : World) (hs : s.size ≤ 2000) (hi : i < s.size) (hD0 : isD (s[i]'hi) = true) :
    Calls Tryd.prog 23 #[.string s, .int .i64 i] w (NextPost w i (wordW (s.data.toList.drop i))) := by
  have hi' : (i : Int) < s.size := by omega
  have hdr0 := drop_at s.data.toList i (lt_len hi)
  rw [bytes_at s i hi] at hdr0
  have hdz : dsz (s.data.toList.drop i) = dsz (s.data.toList.drop (i + 1)) + 1 := by rw [hdr0]; exact dsz_cons _ _ hD0
  have hww : wordW (s.data.toList.drop i) = numW (s.data.toList.drop i) := by rw [hdr0]; exact wordW_dig _ _ hD0
  have hE : (numW (s.data.toList.drop i)).e = numE false ((s.data.toList.drop i).take (dsz (s.data.toList.drop i))) ∧ (numE false ((s.data.toList.drop i).take (dsz (s.data.toList.drop i))) = 0 → numW (s.data.toList.drop i) = ⟨3, [], numN false ((s.data.toList.drop i).take (dsz (s.data.toList.drop i))), dsz (s.data.toList.drop i), 0⟩) := by
    rw [hdr0]; exact numW_E _ _ hD0
  have hL0 := dig_not_let _ hD0
  obtain ⟨c0, hc0⟩ : ∃ c, s[i]'hi = c := ⟨_, rfl⟩
  rw [hc0] at hD0 hL0
  have HW := Lib.hid hww; have HE := Lib.hid hE
  have HLA := Lib.hid rletter_b; have HDA := Lib.hid rdigit_b
  have hdz2 := Lib.hid hdz
  clear hdr0 hww hE hdz
  go_enter Tryd.func23, Tryd.ntmps23
  go_wp2_with (first | (go_at_call 25; (with_reducible refine (HLA.out _ _).mono ?_); rintro e w' ⟨rfl, rfl⟩) | (go_at_call 26; (with_reducible refine (HDA.out _ _).mono ?_); rintro e w' ⟨rfl, rfl⟩))
  have hdz := hdz2.out
  clear hdz2
  have HDZ := Lib.hid hdz
  go_loop [7] (fun kv => ∃ k : Nat, i + 1 ≤ k ∧ k ≤ s.size ∧ kv = .int .i64 k ∧ Hid (i + 1 + dsz (s.data.toList.drop (i + 1)) = k + dsz (s.data.toList.drop k))) (fun kv => s.size - (intOf kv).toNat)
  case atStart => exact ⟨i + 1, Nat.le_refl _, by omega, by go_num, rfl⟩
  case round =>
    obtain ⟨k, hik, hk, rfl, hd⟩ := hrel
    by_cases hgo : ∃ h : k < s.size, isD (s[k]'h) = true
    · obtain ⟨hlt, hdk⟩ := hgo
      have hz := dsz_step s.data.toList k (lt_len hlt) (by rw [bytes_at s k hlt]; exact hdk)
      obtain ⟨c, hc⟩ : ∃ c, s[k]'hlt = c := ⟨_, rfl⟩
      rw [hc] at hdk
      have hlt' : (k : Int) < s.size := by omega
      have HZ := Lib.hid hz
      clear hz
      go_wp2_with (first | (go_at_call 26; (with_reducible refine (HDA.out _ _).mono ?_); rintro e w' ⟨rfl, rfl⟩))
      go_round
      case rel => exact ⟨k + 1, by omega, by omega, by go_num, by have := hd.out; rw [HZ.out] at this; unfold Hid; omega⟩
      case measure => simp [intOf]; omega
    · have hz : dsz (s.data.toList.drop k) = 0 := by
        by_cases hlt : k < s.size
        · exact dsz_stop s.data.toList k (lt_len hlt) (by rw [bytes_at s k hlt]; cases h : isD (s[k]'hlt) with | false => rfl | true => exact absurd ⟨hlt, h⟩ hgo)
        · have : k = s.size := by omega
          rw [this, ← bytes_len, dsz_end]
      have hkk : k = i + 1 + dsz (s.data.toList.drop (i + 1)) := by have := hd.out; rw [hz] at this; omega
      have hxl := ext_list s i k
      rw [show k - i = dsz (s.data.toList.drop i) by rw [hdz]; omega] at hxl
      have cN := fun w => RNumber_plus (s.extract i k) ((s.data.toList.drop i).take (dsz (s.data.toList.drop i))) w (by rw [ByteArray.size_extract]; omega) hxl (dsz_take _).1 (by rw [(dsz_take _).2]; omega)
      have HN := Lib.hid cN
      clear hxl cN hz hdz
      have hik' : (i : Int) ≤ k := by omega
      have hks' : (k : Int) ≤ s.size := by omega
      have HKK := Lib.hid hkk
      clear hkk
      rcases Nat.lt_or_ge k s.size with hlt | hlt
      · have hdk : isD (s[k]'hlt) = false := by cases h : isD (s[k]'hlt) with | false => rfl | true => exact absurd ⟨hlt, h⟩ hgo
        obtain ⟨c, hc⟩ : ∃ c, s[k]'hlt = c := ⟨_, rfl⟩
        rw [hc] at hdk
        have hlt' : (k : Int) < s.size := by omega
        clear hgo
        go_wp2_with (first | (go_at_call 26; (with_reducible refine (HDA.out _ _).mono ?_); rintro e w' ⟨rfl, rfl⟩) | (go_at_call 35; (with_reducible refine (HN.out _).mono ?_); rintro e w' ⟨rfl, rfl⟩))
        refine bodyPost_ret (v := .tuple #[.agg #[.int .i64 3, .string ⟨#[]⟩, .int .i64 (numN false ((s.data.toList.drop i).take (dsz (s.data.toList.drop i)))), .int .i64 i], .int .i64 k, .int .i64 (numE false ((s.data.toList.drop i).take (dsz (s.data.toList.drop i))))]) (by simp [results, Tryd.results23, go_sem]) rfl ⟨(Below.refl _ _).alloc (Nat.le_refl _) _, 3, numN false ((s.data.toList.drop i).take (dsz (s.data.toList.drop i))), i, k, ⟨#[]⟩, by rw [HW.out, HE.out.1], fun h => ?_⟩
        rw [HW.out, HE.out.1] at h
        rw [HW.out, HE.out.2 h]
        exact ⟨rfl, rfl, rfl, rfl, by simp only; have := HKK.out; have := HDZ.out; omega⟩
      · have hlt' : ¬ (k : Int) < s.size := by omega
        clear hgo
        go_wp2_with (go_at_call 35; (with_reducible refine (HN.out _).mono ?_); rintro e w' ⟨rfl, rfl⟩)
        refine bodyPost_ret (v := .tuple #[.agg #[.int .i64 3, .string ⟨#[]⟩, .int .i64 (numN false ((s.data.toList.drop i).take (dsz (s.data.toList.drop i)))), .int .i64 i], .int .i64 k, .int .i64 (numE false ((s.data.toList.drop i).take (dsz (s.data.toList.drop i))))]) (by simp [results, Tryd.results23, go_sem]) rfl ⟨(Below.refl _ _).alloc (Nat.le_refl _) _, 3, numN false ((s.data.toList.drop i).take (dsz (s.data.toList.drop i))), i, k, ⟨#[]⟩, by rw [HW.out, HE.out.1], fun h => ?_⟩
        rw [HW.out, HE.out.1] at h
        rw [HW.out, HE.out.2 h]
        exact ⟨rfl, rfl, rfl, rfl, by simp only; have := HKK.out; have := HDZ.out; omega⟩

set_option maxRecDepth 100000 in
set_option maxHeartbeats 4000000 in
theorem next_neg (s : ByteArray) (i : Nat) (w : World) (hs : s.size ≤ 2000) (hi : i < s.size) (h45 : s[i]'hi = 45) (hi1 : i + 1 < s.size) (hD1 : isD (s[i + 1]'hi1) = true) :
    Calls Tryd.prog 23 #[.string s, .int .i64 i] w (NextPost w i (wordW (s.data.toList.drop i))) := by
  have hi' : (i : Int) + 1 < s.size := by omega
  have hdr0 := drop_at s.data.toList i (lt_len hi)
  rw [bytes_at s i hi, h45] at hdr0
  have hdr1 := drop_at s.data.toList (i + 1) (lt_len hi1)
  rw [bytes_at s (i + 1) hi1] at hdr1
  have hpos : 0 < dsz (s.data.toList.drop (i + 1)) := by rw [hdr1, dsz_cons _ _ hD1]; omega
  have hww : wordW (s.data.toList.drop i) = numW (s.data.toList.drop i) := by
    rw [hdr0]
    rw [show wordW (45 :: s.data.toList.drop (i + 1)) = (if dsz (s.data.toList.drop (i + 1)) = 0 then signW (45 :: s.data.toList.drop (i + 1)) else numW (45 :: s.data.toList.drop (i + 1))) from rfl, if_neg (by omega)]
  have hE : (numW (s.data.toList.drop i)).e = numE true ((s.data.toList.drop (i + 1)).take (dsz (s.data.toList.drop (i + 1)))) ∧ (numE true ((s.data.toList.drop (i + 1)).take (dsz (s.data.toList.drop (i + 1)))) = 0 → numW (s.data.toList.drop i) = ⟨3, [], numN true ((s.data.toList.drop (i + 1)).take (dsz (s.data.toList.drop (i + 1)))), 1 + dsz (s.data.toList.drop (i + 1)), 0⟩) := by
    rw [hdr0]; exact numW_M _ hpos
  obtain ⟨c0, hc0⟩ : ∃ c, s[i]'hi = c := ⟨_, rfl⟩
  rw [hc0] at h45
  have hL0 : isL c0 = false := by rw [h45]; decide
  have hD0 : isD c0 = false := by rw [h45]; decide
  have t45 : ((c0.toNat : Int) == 45) = true := by rw [h45]; decide
  clear h45
  obtain ⟨c1, hc1⟩ : ∃ c, s[i + 1]'hi1 = c := ⟨_, rfl⟩
  rw [hc1] at hD1
  have HW := Lib.hid hww; have HE := Lib.hid hE; have HR0 := Lib.hid hdr0
  have HLA := Lib.hid rletter_b; have HDA := Lib.hid rdigit_b
  clear hdr0 hdr1 hww hE
  go_enter Tryd.func23, Tryd.ntmps23
  go_wp2_with (first | (go_at_call 25; (with_reducible refine (HLA.out _ _).mono ?_); rintro e w' ⟨rfl, rfl⟩) | (go_at_call 26; (with_reducible refine (HDA.out _ _).mono ?_); rintro e w' ⟨rfl, rfl⟩))
  have hdr0 := HR0.out
  go_loop [7] (fun kv => ∃ k : Nat, i + 1 ≤ k ∧ k ≤ s.size ∧ kv = .int .i64 k ∧ Hid (i + 1 + dsz (s.data.toList.drop (i + 1)) = k + dsz (s.data.toList.drop k))) (fun kv => s.size - (intOf kv).toNat)
  case atStart => exact ⟨i + 1, Nat.le_refl _, by omega, by go_num, rfl⟩
  case round =>
    obtain ⟨k, hik, hk, rfl, hd⟩ := hrel
    by_cases hgo : ∃ h : k < s.size, isD (s[k]'h) = true
    · obtain ⟨hlt, hdk⟩ := hgo
      have hz := dsz_step s.data.toList k (lt_len hlt) (by rw [bytes_at s k hlt]; exact hdk)
      obtain ⟨c, hc⟩ : ∃ c, s[k]'hlt = c := ⟨_, rfl⟩
      rw [hc] at hdk
      have hlt' : (k : Int) < s.size := by omega
      have HZ := Lib.hid hz
      clear hz
      go_wp2_with (first | (go_at_call 26; (with_reducible refine (HDA.out _ _).mono ?_); rintro e w' ⟨rfl, rfl⟩))
      go_round
      case rel => exact ⟨k + 1, by omega, by omega, by go_num, by have := hd.out; rw [HZ.out] at this; unfold Hid; omega⟩
      case measure => simp [intOf]; omega
    · have hz : dsz (s.data.toList.drop k) = 0 := by
        by_cases hlt : k < s.size
        · exact dsz_stop s.data.toList k (lt_len hlt) (by rw [bytes_at s k hlt]; cases h : isD (s[k]'hlt) with | false => rfl | true => exact absurd ⟨hlt, h⟩ hgo)
        · have : k = s.size := by omega
          rw [this, ← bytes_len, dsz_end]
      have hkk : k = i + 1 + dsz (s.data.toList.drop (i + 1)) := by have := hd.out; rw [hz] at this; omega
      have hxl := ext_list s i k
      rw [show (s.data.toList.drop i).take (k - i) = 45 :: (s.data.toList.drop (i + 1)).take (dsz (s.data.toList.drop (i + 1))) from by rw [hdr0, show k - i = dsz (s.data.toList.drop (i + 1)) + 1 by omega, List.take_succ_cons]] at hxl
      have cN := fun w => RNumber_minus (s.extract i k) ((s.data.toList.drop (i + 1)).take (dsz (s.data.toList.drop (i + 1)))) w (by rw [ByteArray.size_extract]; omega) hxl (dsz_take _).1 (by rw [(dsz_take _).2]; exact hpos)
      have HN := Lib.hid cN
      clear hxl cN hz
      have hik' : (i : Int) ≤ k := by omega
      have hks' : (k : Int) ≤ s.size := by omega
      have HKK := Lib.hid hkk
      clear hkk
      rcases Nat.lt_or_ge k s.size with hlt | hlt
      · have hdk : isD (s[k]'hlt) = false := by cases h : isD (s[k]'hlt) with | false => rfl | true => exact absurd ⟨hlt, h⟩ hgo
        obtain ⟨c, hc⟩ : ∃ c, s[k]'hlt = c := ⟨_, rfl⟩
        rw [hc] at hdk
        have hlt' : (k : Int) < s.size := by omega
        clear hgo
        go_wp2_with (first | (go_at_call 26; (with_reducible refine (HDA.out _ _).mono ?_); rintro e w' ⟨rfl, rfl⟩) | (go_at_call 35; (with_reducible refine (HN.out _).mono ?_); rintro e w' ⟨rfl, rfl⟩))
        refine bodyPost_ret (v := .tuple #[.agg #[.int .i64 3, .string ⟨#[]⟩, .int .i64 (numN true ((s.data.toList.drop (i + 1)).take (dsz (s.data.toList.drop (i + 1))))), .int .i64 i], .int .i64 k, .int .i64 (numE true ((s.data.toList.drop (i + 1)).take (dsz (s.data.toList.drop (i + 1)))))]) (by simp [results, Tryd.results23, go_sem]) rfl ⟨(Below.refl _ _).alloc (Nat.le_refl _) _, 3, numN true ((s.data.toList.drop (i + 1)).take (dsz (s.data.toList.drop (i + 1)))), i, k, ⟨#[]⟩, by rw [HW.out, HE.out.1], fun h => ?_⟩
        rw [HW.out, HE.out.1] at h
        rw [HW.out, HE.out.2 h]
        exact ⟨rfl, rfl, rfl, rfl, by simp only; have := HKK.out; omega⟩
      · have hlt' : ¬ (k : Int) < s.size := by omega
        clear hgo
        go_wp2_with (go_at_call 35; (with_reducible refine (HN.out _).mono ?_); rintro e w' ⟨rfl, rfl⟩)
        refine bodyPost_ret (v := .tuple #[.agg #[.int .i64 3, .string ⟨#[]⟩, .int .i64 (numN true ((s.data.toList.drop (i + 1)).take (dsz (s.data.toList.drop (i + 1))))), .int .i64 i], .int .i64 k, .int .i64 (numE true ((s.data.toList.drop (i + 1)).take (dsz (s.data.toList.drop (i + 1)))))]) (by simp [results, Tryd.results23, go_sem]) rfl ⟨(Below.refl _ _).alloc (Nat.le_refl _) _, 3, numN true ((s.data.toList.drop (i + 1)).take (dsz (s.data.toList.drop (i + 1)))), i, k, ⟨#[]⟩, by rw [HW.out, HE.out.1], fun h => ?_⟩
        rw [HW.out, HE.out.1] at h
        rw [HW.out, HE.out.2 h]
        exact ⟨rfl, rfl, rfl, rfl, by simp only; have := HKK.out; omega⟩
end Sc
end Go.Proofs.YtaillpnjknnhdaaDoor
