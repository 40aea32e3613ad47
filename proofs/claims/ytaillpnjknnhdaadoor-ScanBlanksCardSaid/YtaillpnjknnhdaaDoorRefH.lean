/- next of package sprueref1, at signs: what each call returns; nothing that was there turns. Written by gen_refh.py. -/
import Derived.Test.YtaillpnjknnhdaaDoorRefG
namespace Go.Proofs.YtaillpnjknnhdaaDoor
open Go.RowKit
namespace Sc

theorem cut2 (s : ByteArray) (i : Nat) (h : i + 1 < s.size) : (s.extract i (i + 2)).data.toList = [s[i]'(by omega), s[i + 1]] := by
  rw [ext_list, show i + 2 - i = 2 by omega, drop_at _ i (lt_len (by omega)), drop_at _ (i + 1) (lt_len h), bytes_at s i (by omega), bytes_at s (i + 1) h]; rfl
theorem cut_eq (s : ByteArray) (i j : Nat) (l m : List UInt8) (h : (s.extract i j).data.toList = l) : ((s.extract i j).toList == m) = decide (l = m) := by
  rw [ByteArray.toList_eq, h]
  by_cases e : l = m
  · subst e; simp
  · simp [e]

set_option maxRecDepth 100000 in
set_option maxHeartbeats 4000000 in
theorem next_two (s : ByteArray) (i : Nat) (w : World) (hs : s.size ≤ 2000) (hi : i + 1 < s.size) (h2 : (s[i]'(by omega) = 45 ∧ s[i + 1]'hi = 62) ∨ (s[i]'(by omega) = 58 ∧ s[i + 1]'hi = 61)) :
    Calls Tryd.prog 23 #[.string s, .int .i64 i] w (NextPost w i (wordW (s.data.toList.drop i))) := by
  have hi' : (i : Int) + 1 < s.size := by omega
  have hi2' : (i : Int) + 2 ≤ s.size := by omega
  have hdr := drop_at s.data.toList i (lt_len (by omega))
  rw [bytes_at s i (by omega), drop_at s.data.toList (i + 1) (lt_len hi), bytes_at s (i + 1) hi] at hdr
  have hcut := cut2 s i hi
  obtain ⟨c0, hc0⟩ : ∃ c, s[i]'(by omega) = c := ⟨_, rfl⟩
  obtain ⟨c1, hc1⟩ : ∃ c, s[i + 1]'hi = c := ⟨_, rfl⟩
  rw [hc0, hc1] at h2 hdr hcut
  have hw : wordW (s.data.toList.drop i) = ⟨4, [c0, c1], 0, 2, 0⟩ := by
    rw [hdr, ← signW_two c0 c1 (s.data.toList.drop (i + 1 + 1)) h2]
    generalize s.data.toList.drop (i + 1 + 1) = t
    rcases h2 with ⟨rfl, rfl⟩ | ⟨rfl, rfl⟩ <;> rfl
  have hL0 : isL c0 = false := by rcases h2 with ⟨rfl, rfl⟩ | ⟨rfl, rfl⟩ <;> decide
  have hD0 : isD c0 = false := by rcases h2 with ⟨rfl, rfl⟩ | ⟨rfl, rfl⟩ <;> decide
  have hD1 : isD c1 = false := by rcases h2 with ⟨rfl, rfl⟩ | ⟨rfl, rfl⟩ <;> decide
  have t34 : ((c0.toNat : Int) == 34) = false := by rcases h2 with ⟨rfl, rfl⟩ | ⟨rfl, rfl⟩ <;> decide
  have HE1 := Lib.hid (cut_eq s i (i + 2) _ [45, 62] hcut); have HE2 := Lib.hid (cut_eq s i (i + 2) _ [58, 61] hcut)
  have HLA := Lib.hid rletter_b; have HDA := Lib.hid rdigit_b
  have HW := Lib.hid hw; have HC := Lib.hid hcut
  clear hw hcut hdr
  rcases h2 with ⟨ha, hb⟩ | ⟨ha, hb⟩
  · have t45 : ((c0.toNat : Int) == 45) = true := by rw [ha]; decide
    have e1 : ((s.extract i (i + 2)).toList == [45, 62]) = true := by rw [HE1.out, ha, hb]; decide
    have e2 : ((s.extract i (i + 2)).toList == [58, 61]) = false := by rw [HE2.out, ha, hb]; decide
    clear ha hb HE1 HE2
    go_enter Tryd.func23, Tryd.ntmps23
    go_wp2_with (first | (go_at_call 25; (with_reducible refine (HLA.out _ _).mono ?_); rintro e w' ⟨rfl, rfl⟩) | (go_at_call 26; (with_reducible refine (HDA.out _ _).mono ?_); rintro e w' ⟨rfl, rfl⟩))
    refine bodyPost_ret (v := .tuple #[.agg #[.int .i64 4, .string (s.extract i (i + 2)), .int .i64 0, .int .i64 i], .int .i64 (i + 2 : Nat), .int .i64 0]) (by simp [results, Tryd.results23, go_sem]) rfl ⟨(Below.refl _ _).alloc (Nat.le_refl _) _, 4, 0, i, (i + 2 : Nat), s.extract i (i + 2), by rw [HW.out]; rfl, fun _ => ?_⟩
    rw [HW.out]
    exact ⟨rfl, (eta_b _ _ HC.out).symm, rfl, rfl, by simp only; omega⟩
  · have t45 : ((c0.toNat : Int) == 45) = false := by rw [ha]; decide
    have e1 : ((s.extract i (i + 2)).toList == [45, 62]) = false := by rw [HE1.out, ha, hb]; decide
    have e2 : ((s.extract i (i + 2)).toList == [58, 61]) = true := by rw [HE2.out, ha, hb]; decide
    clear ha hb HE1 HE2
    go_enter Tryd.func23, Tryd.ntmps23
    go_wp2_with (first | (go_at_call 25; (with_reducible refine (HLA.out _ _).mono ?_); rintro e w' ⟨rfl, rfl⟩) | (go_at_call 26; (with_reducible refine (HDA.out _ _).mono ?_); rintro e w' ⟨rfl, rfl⟩))
    refine bodyPost_ret (v := .tuple #[.agg #[.int .i64 4, .string (s.extract i (i + 2)), .int .i64 0, .int .i64 i], .int .i64 (i + 2 : Nat), .int .i64 0]) (by simp [results, Tryd.results23, go_sem]) rfl ⟨(Below.refl _ _).alloc (Nat.le_refl _) _, 4, 0, i, (i + 2 : Nat), s.extract i (i + 2), by rw [HW.out]; rfl, fun _ => ?_⟩
    rw [HW.out]
    exact ⟨rfl, (eta_b _ _ HC.out).symm, rfl, rfl, by simp only; omega⟩

theorem lit_at (j : Nat) (h : j < 13) : (⟨#[123, 125, 60, 62, 44, 58, 40, 41, 46, 36, 124, 61, 59]⟩ : ByteArray)[j]'h = ones[j]'h := by
  match j, h with
  | 0, _ => rfl
  | 1, _ => rfl
  | 2, _ => rfl
  | 3, _ => rfl
  | 4, _ => rfl
  | 5, _ => rfl
  | 6, _ => rfl
  | 7, _ => rfl
  | 8, _ => rfl
  | 9, _ => rfl
  | 10, _ => rfl
  | 11, _ => rfl
  | 12, _ => rfl
theorem take_not (j : Nat) (h : j < 13) (c : UInt8) (hn : c ∉ ones.take j) (hc : c ≠ ones[j]'h) : c ∉ ones.take (j + 1) := by
  rw [List.take_succ_eq_append_getElem h]
  simp only [List.mem_append, List.mem_singleton, not_or]
  exact ⟨hn, hc⟩

set_option maxRecDepth 100000 in
set_option maxHeartbeats 4000000 in
theorem next_one (s : ByteArray) (i : Nat) (w : World) (hs : s.size ≤ 2000) (hi : i < s.size) (hL0 : isL (s[i]'hi) = false) (hD0 : isD (s[i]'hi) = false) (h34 : s[i]'hi ≠ 34)
    (h2 : ∀ h : i + 1 < s.size, ¬ ((s[i]'hi = 45 ∧ s[i + 1]'h = 62) ∨ (s[i]'hi = 58 ∧ s[i + 1]'h = 61))) (hM : ∀ h : i + 1 < s.size, s[i]'hi = 45 → isD (s[i + 1]'h) = false) :
    Calls Tryd.prog 23 #[.string s, .int .i64 i] w (NextPost w i (wordW (s.data.toList.drop i))) := by
  have hi' : (i : Int) < s.size := by omega
  have hdr := drop_at s.data.toList i (lt_len hi)
  rw [bytes_at s i hi] at hdr
  have hcut := (cut1 s i hi).1
  have hdz : s[i]'hi = 45 → dsz (s.data.toList.drop (i + 1)) = 0 := by
    intro h45
    rcases Nat.lt_or_ge (i + 1) s.size with h | h
    · exact dsz_stop _ _ (lt_len h) (by rw [bytes_at s (i + 1) h]; exact hM h h45)
    · rw [List.drop_eq_nil_of_le (by rw [bytes_len]; omega)]; rfl
  have hhd : ∀ d t, s.data.toList.drop (i + 1) = d :: t → ∃ h : i + 1 < s.size, d = s[i + 1]'h := by
    intro d t e
    rcases Nat.lt_or_ge (i + 1) s.size with h | h
    · refine ⟨h, ?_⟩
      rw [drop_at _ _ (lt_len h), bytes_at s (i + 1) h] at e
      exact (List.cons.inj e).1.symm
    · rw [List.drop_eq_nil_of_le (by rw [bytes_len]; omega)] at e; cases e
  obtain ⟨c0, hc0⟩ : ∃ c, s[i]'hi = c := ⟨_, rfl⟩
  rw [hc0] at hdr hcut hdz hL0 hD0 h34
  simp only [hc0] at h2 hM
  have hn34 : c0.toNat ≠ 34 := fun e => h34 (UInt8.toNat_inj.1 e)
  have hw : wordW (s.data.toList.drop i) = if c0 ∈ ones then ⟨4, [c0], 0, 1, 0⟩ else bad 11 := by
    rw [hdr, ← signW_one c0 (s.data.toList.drop (i + 1)) (fun d t e => by obtain ⟨h, rfl⟩ := hhd d t e; exact h2 h)]
    generalize s.data.toList.drop (i + 1) = r at *
    rw [show wordW (c0 :: r) = (if c0.toNat = 34 then quotW (c0 :: r) else if c0.toNat = 45 then (if dsz r = 0 then signW (c0 :: r) else numW (c0 :: r))
      else if isD c0 then numW (c0 :: r) else if isL c0 then nameW (c0 :: r) else signW (c0 :: r)) from rfl, if_neg hn34, hD0, hL0]
    by_cases h45 : c0.toNat = 45
    · rw [if_pos h45, if_pos (hdz (UInt8.toNat_inj.1 h45))]
    · rw [if_neg h45]; rfl
  have t34 : ((c0.toNat : Int) == 34) = false := by rw [beq_eq_false_iff_ne]; omega
  have HLA := Lib.hid rletter_b; have HDA := Lib.hid rdigit_b
  have HW := Lib.hid hw; have HC := Lib.hid hcut
  clear hw hcut hdr hdz hhd h34 hn34
  by_cases hi1 : i + 1 < s.size
  · have hi1' : (i : Int) + 1 < s.size := by omega
    have hi2' : (i : Int) + 2 ≤ s.size := by omega
    have h2 := h2 hi1; have hM := hM hi1
    have hcut2 := cut2 s i hi1
    obtain ⟨c1, hc1⟩ : ∃ c, s[i + 1]'hi1 = c := ⟨_, rfl⟩
    rw [hc1] at hM h2
    rw [hc0, hc1] at hcut2
    have e1 : ((s.extract i (i + 2)).toList == [45, 62]) = false := by
      rw [cut_eq s i (i + 2) _ [45, 62] hcut2]; simp; intro a b; exact h2 (Or.inl ⟨a, b⟩)
    have e2 : ((s.extract i (i + 2)).toList == [58, 61]) = false := by
      rw [cut_eq s i (i + 2) _ [58, 61] hcut2]; simp; intro a b; exact h2 (Or.inr ⟨a, b⟩)
    clear h2 hcut2
    by_cases h45 : c0 = 45
    · have t45 : ((c0.toNat : Int) == 45) = true := by rw [h45]; decide
      have hD1 := hM h45
      clear h45 hM
      go_enter Tryd.func23, Tryd.ntmps23
      go_wp2_with (first | (go_at_call 25; (with_reducible refine (HLA.out _ _).mono ?_); rintro e w' ⟨rfl, rfl⟩) | (go_at_call 26; (with_reducible refine (HDA.out _ _).mono ?_); rintro e w' ⟨rfl, rfl⟩))
      go_loopw [13] (fun jv wr => ∃ j nq : Nat, j ≤ 13 ∧ jv = .int .i64 j ∧ wr = (w.alloc (.cells #[.int .i64 0, .string ⟨#[]⟩, .int .i64 0, .int .i64 0] 53)).drewN nq ∧ Hid (c0 ∉ ones.take j)) (fun jv _ => 13 - (intOf jv).toNat)
      case atStart => exact ⟨0, 0, by omega, rfl, rfl, by simp [Hid]⟩
      case round =>
        obtain ⟨j, nq, hj, rfl, rfl, hd⟩ := hrel
        by_cases hlt : j < 13
        · have hlt' : (j : Int) < 13 := by omega
          have hl := lit_at j hlt
          have hn := take_not j hlt c0 hd.out
          obtain ⟨x, hx⟩ : ∃ x, ones[j]'hlt = x := ⟨_, rfl⟩
          rw [hx] at hl hn
          by_cases hxe : x = c0
          · have tx : ((x.toNat : Int) == c0.toNat) = true := by rw [hxe]; simp
            have hw2 : wordW (s.data.toList.drop i) = ⟨4, [c0], 0, 1, 0⟩ := by
              rw [HW.out, if_pos]; rw [← hxe, ← hx]; exact List.getElem_mem _
            have HW2 := Lib.hid hw2
            clear hxe hw2 hn hx
            go_wp2_with fail
            go_quiet (fail)
            go_wp2
            refine bodyPost_ret (v := .tuple #[.agg #[.int .i64 4, .string (s.extract i (i + 1)), .int .i64 0, .int .i64 i], .int .i64 (i + 1 : Nat), .int .i64 0]) (by simp [results, Tryd.results23, go_sem]) rfl ⟨((((below_drewN ((Below.refl _ _).alloc (Nat.le_refl _) _) _).setCell (Nat.le_refl _) _).setCell (Nat.le_refl _) _).setCell (Nat.le_refl _) _).setCell (Nat.le_refl _) _, 4, 0, i, (i + 1 : Nat), s.extract i (i + 1), by rw [HW2.out]; rfl, fun _ => ?_⟩
            rw [HW2.out]
            exact ⟨rfl, (eta_b _ _ HC.out).symm, rfl, rfl, by simp only; omega⟩
          · have tx : ((x.toNat : Int) == c0.toNat) = false := by
              rw [beq_eq_false_iff_ne]; intro e; exact hxe (UInt8.toNat_inj.1 (by omega))
            have hn2 := hn (fun e => hxe e.symm)
            have HN2 := Lib.hid hn2
            clear hxe hn hn2 hx
            go_wp2_with fail
            go_quiet (fail)
            go_wp2
            go_roundw
            case rel => exact ⟨j + 1, _, by omega, by go_num, rfl, HN2.out⟩
            case measure => simp [intOf]; omega
        · have hj13 : j = 13 := by omega
          subst hj13
          have hno : c0 ∉ ones := hd.out
          have hw2 : wordW (s.data.toList.drop i) = bad 11 := by rw [HW.out, if_neg hno]
          have HW2 := Lib.hid hw2
          clear hno hw2
          go_wp2
          refine bodyPost_ret (v := .tuple #[.agg #[.int .i64 0, .string ⟨#[]⟩, .int .i64 0, .int .i64 0], .int .i64 0, .int .i64 11]) (by simp [results, Tryd.results23, go_sem]) rfl ⟨((((below_drewN ((Below.refl _ _).alloc (Nat.le_refl _) _) _).setCell (Nat.le_refl _) _).setCell (Nat.le_refl _) _).setCell (Nat.le_refl _) _).setCell (Nat.le_refl _) _, 0, 0, 0, 0, ⟨#[]⟩, by rw [HW2.out]; rfl, fun h => ?_⟩
          rw [HW2.out] at h; cases h
    · have t45 : ((c0.toNat : Int) == 45) = false := by rw [beq_eq_false_iff_ne]; intro e; exact h45 (UInt8.toNat_inj.1 (by have : (45 : UInt8).toNat = 45 := rfl; omega))
      clear h45 hM
      go_enter Tryd.func23, Tryd.ntmps23
      go_wp2_with (first | (go_at_call 25; (with_reducible refine (HLA.out _ _).mono ?_); rintro e w' ⟨rfl, rfl⟩) | (go_at_call 26; (with_reducible refine (HDA.out _ _).mono ?_); rintro e w' ⟨rfl, rfl⟩))
      go_loopw [13] (fun jv wr => ∃ j nq : Nat, j ≤ 13 ∧ jv = .int .i64 j ∧ wr = (w.alloc (.cells #[.int .i64 0, .string ⟨#[]⟩, .int .i64 0, .int .i64 0] 53)).drewN nq ∧ Hid (c0 ∉ ones.take j)) (fun jv _ => 13 - (intOf jv).toNat)
      case atStart => exact ⟨0, 0, by omega, rfl, rfl, by simp [Hid]⟩
      case round =>
        obtain ⟨j, nq, hj, rfl, rfl, hd⟩ := hrel
        by_cases hlt : j < 13
        · have hlt' : (j : Int) < 13 := by omega
          have hl := lit_at j hlt
          have hn := take_not j hlt c0 hd.out
          obtain ⟨x, hx⟩ : ∃ x, ones[j]'hlt = x := ⟨_, rfl⟩
          rw [hx] at hl hn
          by_cases hxe : x = c0
          · have tx : ((x.toNat : Int) == c0.toNat) = true := by rw [hxe]; simp
            have hw2 : wordW (s.data.toList.drop i) = ⟨4, [c0], 0, 1, 0⟩ := by
              rw [HW.out, if_pos]; rw [← hxe, ← hx]; exact List.getElem_mem _
            have HW2 := Lib.hid hw2
            clear hxe hw2 hn hx
            go_wp2_with fail
            go_quiet (fail)
            go_wp2
            refine bodyPost_ret (v := .tuple #[.agg #[.int .i64 4, .string (s.extract i (i + 1)), .int .i64 0, .int .i64 i], .int .i64 (i + 1 : Nat), .int .i64 0]) (by simp [results, Tryd.results23, go_sem]) rfl ⟨((((below_drewN ((Below.refl _ _).alloc (Nat.le_refl _) _) _).setCell (Nat.le_refl _) _).setCell (Nat.le_refl _) _).setCell (Nat.le_refl _) _).setCell (Nat.le_refl _) _, 4, 0, i, (i + 1 : Nat), s.extract i (i + 1), by rw [HW2.out]; rfl, fun _ => ?_⟩
            rw [HW2.out]
            exact ⟨rfl, (eta_b _ _ HC.out).symm, rfl, rfl, by simp only; omega⟩
          · have tx : ((x.toNat : Int) == c0.toNat) = false := by
              rw [beq_eq_false_iff_ne]; intro e; exact hxe (UInt8.toNat_inj.1 (by omega))
            have hn2 := hn (fun e => hxe e.symm)
            have HN2 := Lib.hid hn2
            clear hxe hn hn2 hx
            go_wp2_with fail
            go_quiet (fail)
            go_wp2
            go_roundw
            case rel => exact ⟨j + 1, _, by omega, by go_num, rfl, HN2.out⟩
            case measure => simp [intOf]; omega
        · have hj13 : j = 13 := by omega
          subst hj13
          have hno : c0 ∉ ones := hd.out
          have hw2 : wordW (s.data.toList.drop i) = bad 11 := by rw [HW.out, if_neg hno]
          have HW2 := Lib.hid hw2
          clear hno hw2
          go_wp2
          refine bodyPost_ret (v := .tuple #[.agg #[.int .i64 0, .string ⟨#[]⟩, .int .i64 0, .int .i64 0], .int .i64 0, .int .i64 11]) (by simp [results, Tryd.results23, go_sem]) rfl ⟨((((below_drewN ((Below.refl _ _).alloc (Nat.le_refl _) _) _).setCell (Nat.le_refl _) _).setCell (Nat.le_refl _) _).setCell (Nat.le_refl _) _).setCell (Nat.le_refl _) _, 0, 0, 0, 0, ⟨#[]⟩, by rw [HW2.out]; rfl, fun h => ?_⟩
          rw [HW2.out] at h; cases h
  · have hi1' : ¬ (i : Int) + 1 < s.size := by omega
    have hi2' : ¬ (i : Int) + 2 ≤ s.size := by omega
    clear h2 hM
    rcases Bool.eq_false_or_eq_true ((c0.toNat : Int) == 45) with t45 | t45
    · go_enter Tryd.func23, Tryd.ntmps23
      go_wp2_with (first | (go_at_call 25; (with_reducible refine (HLA.out _ _).mono ?_); rintro e w' ⟨rfl, rfl⟩) | (go_at_call 26; (with_reducible refine (HDA.out _ _).mono ?_); rintro e w' ⟨rfl, rfl⟩))
      go_loopw [13] (fun jv wr => ∃ j nq : Nat, j ≤ 13 ∧ jv = .int .i64 j ∧ wr = (w.alloc (.cells #[.int .i64 0, .string ⟨#[]⟩, .int .i64 0, .int .i64 0] 53)).drewN nq ∧ Hid (c0 ∉ ones.take j)) (fun jv _ => 13 - (intOf jv).toNat)
      case atStart => exact ⟨0, 0, by omega, rfl, rfl, by simp [Hid]⟩
      case round =>
        obtain ⟨j, nq, hj, rfl, rfl, hd⟩ := hrel
        by_cases hlt : j < 13
        · have hlt' : (j : Int) < 13 := by omega
          have hl := lit_at j hlt
          have hn := take_not j hlt c0 hd.out
          obtain ⟨x, hx⟩ : ∃ x, ones[j]'hlt = x := ⟨_, rfl⟩
          rw [hx] at hl hn
          by_cases hxe : x = c0
          · have tx : ((x.toNat : Int) == c0.toNat) = true := by rw [hxe]; simp
            have hw2 : wordW (s.data.toList.drop i) = ⟨4, [c0], 0, 1, 0⟩ := by
              rw [HW.out, if_pos]; rw [← hxe, ← hx]; exact List.getElem_mem _
            have HW2 := Lib.hid hw2
            clear hxe hw2 hn hx
            go_wp2_with fail
            go_quiet (fail)
            go_wp2
            refine bodyPost_ret (v := .tuple #[.agg #[.int .i64 4, .string (s.extract i (i + 1)), .int .i64 0, .int .i64 i], .int .i64 (i + 1 : Nat), .int .i64 0]) (by simp [results, Tryd.results23, go_sem]) rfl ⟨((((below_drewN ((Below.refl _ _).alloc (Nat.le_refl _) _) _).setCell (Nat.le_refl _) _).setCell (Nat.le_refl _) _).setCell (Nat.le_refl _) _).setCell (Nat.le_refl _) _, 4, 0, i, (i + 1 : Nat), s.extract i (i + 1), by rw [HW2.out]; rfl, fun _ => ?_⟩
            rw [HW2.out]
            exact ⟨rfl, (eta_b _ _ HC.out).symm, rfl, rfl, by simp only; omega⟩
          · have tx : ((x.toNat : Int) == c0.toNat) = false := by
              rw [beq_eq_false_iff_ne]; intro e; exact hxe (UInt8.toNat_inj.1 (by omega))
            have hn2 := hn (fun e => hxe e.symm)
            have HN2 := Lib.hid hn2
            clear hxe hn hn2 hx
            go_wp2_with fail
            go_quiet (fail)
            go_wp2
            go_roundw
            case rel => exact ⟨j + 1, _, by omega, by go_num, rfl, HN2.out⟩
            case measure => simp [intOf]; omega
        · have hj13 : j = 13 := by omega
          subst hj13
          have hno : c0 ∉ ones := hd.out
          have hw2 : wordW (s.data.toList.drop i) = bad 11 := by rw [HW.out, if_neg hno]
          have HW2 := Lib.hid hw2
          clear hno hw2
          go_wp2
          refine bodyPost_ret (v := .tuple #[.agg #[.int .i64 0, .string ⟨#[]⟩, .int .i64 0, .int .i64 0], .int .i64 0, .int .i64 11]) (by simp [results, Tryd.results23, go_sem]) rfl ⟨((((below_drewN ((Below.refl _ _).alloc (Nat.le_refl _) _) _).setCell (Nat.le_refl _) _).setCell (Nat.le_refl _) _).setCell (Nat.le_refl _) _).setCell (Nat.le_refl _) _, 0, 0, 0, 0, ⟨#[]⟩, by rw [HW2.out]; rfl, fun h => ?_⟩
          rw [HW2.out] at h; cases h
    · go_enter Tryd.func23, Tryd.ntmps23
      go_wp2_with (first | (go_at_call 25; (with_reducible refine (HLA.out _ _).mono ?_); rintro e w' ⟨rfl, rfl⟩) | (go_at_call 26; (with_reducible refine (HDA.out _ _).mono ?_); rintro e w' ⟨rfl, rfl⟩))
      go_loopw [13] (fun jv wr => ∃ j nq : Nat, j ≤ 13 ∧ jv = .int .i64 j ∧ wr = (w.alloc (.cells #[.int .i64 0, .string ⟨#[]⟩, .int .i64 0, .int .i64 0] 53)).drewN nq ∧ Hid (c0 ∉ ones.take j)) (fun jv _ => 13 - (intOf jv).toNat)
      case atStart => exact ⟨0, 0, by omega, rfl, rfl, by simp [Hid]⟩
      case round =>
        obtain ⟨j, nq, hj, rfl, rfl, hd⟩ := hrel
        by_cases hlt : j < 13
        · have hlt' : (j : Int) < 13 := by omega
          have hl := lit_at j hlt
          have hn := take_not j hlt c0 hd.out
          obtain ⟨x, hx⟩ : ∃ x, ones[j]'hlt = x := ⟨_, rfl⟩
          rw [hx] at hl hn
          by_cases hxe : x = c0
          · have tx : ((x.toNat : Int) == c0.toNat) = true := by rw [hxe]; simp
            have hw2 : wordW (s.data.toList.drop i) = ⟨4, [c0], 0, 1, 0⟩ := by
              rw [HW.out, if_pos]; rw [← hxe, ← hx]; exact List.getElem_mem _
            have HW2 := Lib.hid hw2
            clear hxe hw2 hn hx
            go_wp2_with fail
            go_quiet (fail)
            go_wp2
            refine bodyPost_ret (v := .tuple #[.agg #[.int .i64 4, .string (s.extract i (i + 1)), .int .i64 0, .int .i64 i], .int .i64 (i + 1 : Nat), .int .i64 0]) (by simp [results, Tryd.results23, go_sem]) rfl ⟨((((below_drewN ((Below.refl _ _).alloc (Nat.le_refl _) _) _).setCell (Nat.le_refl _) _).setCell (Nat.le_refl _) _).setCell (Nat.le_refl _) _).setCell (Nat.le_refl _) _, 4, 0, i, (i + 1 : Nat), s.extract i (i + 1), by rw [HW2.out]; rfl, fun _ => ?_⟩
            rw [HW2.out]
            exact ⟨rfl, (eta_b _ _ HC.out).symm, rfl, rfl, by simp only; omega⟩
          · have tx : ((x.toNat : Int) == c0.toNat) = false := by
              rw [beq_eq_false_iff_ne]; intro e; exact hxe (UInt8.toNat_inj.1 (by omega))
            have hn2 := hn (fun e => hxe e.symm)
            have HN2 := Lib.hid hn2
            clear hxe hn hn2 hx
            go_wp2_with fail
            go_quiet (fail)
            go_wp2
            go_roundw
            case rel => exact ⟨j + 1, _, by omega, by go_num, rfl, HN2.out⟩
            case measure => simp [intOf]; omega
        · have hj13 : j = 13 := by omega
          subst hj13
          have hno : c0 ∉ ones := hd.out
          have hw2 : wordW (s.data.toList.drop i) = bad 11 := by rw [HW.out, if_neg hno]
          have HW2 := Lib.hid hw2
          clear hno hw2
          go_wp2
          refine bodyPost_ret (v := .tuple #[.agg #[.int .i64 0, .string ⟨#[]⟩, .int .i64 0, .int .i64 0], .int .i64 0, .int .i64 11]) (by simp [results, Tryd.results23, go_sem]) rfl ⟨((((below_drewN ((Below.refl _ _).alloc (Nat.le_refl _) _) _).setCell (Nat.le_refl _) _).setCell (Nat.le_refl _) _).setCell (Nat.le_refl _) _).setCell (Nat.le_refl _) _, 0, 0, 0, 0, ⟨#[]⟩, by rw [HW2.out]; rfl, fun h => ?_⟩
          rw [HW2.out] at h; cases h
end Sc
end Go.Proofs.YtaillpnjknnhdaaDoor
