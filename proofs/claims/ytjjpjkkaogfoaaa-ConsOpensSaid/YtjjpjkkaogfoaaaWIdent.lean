/- Ident of package sprueref1: what it tells of each text. -/
import Derived.Test.YtjjpjkkaogfoaaaZIdent
namespace Go.Proofs.Ytjjpjkkaogfoaaa
open Go.RowKit
namespace Sp
open Sc

theorem rletter_any (r : Int) (w : World) :
    Calls Try.prog 68 #[.int .u8 r] w fun e w' => e = .returned (.bool (Sc.letB r)) ∧ w = w' := by
  obtain ⟨b, hb⟩ : ∃ b, Sc.letB r = b := ⟨_, rfl⟩
  rw [hb]
  have hb' : b = (decide (r = 95) || (decide (97 ≤ r) && decide (r ≤ 122)) || (decide (65 ≤ r) && decide (r ≤ 90))) := hb.symm
  clear hb
  by_cases h1 : r = 95
  · obtain rfl : b = true := by rw [hb']; simp [h1]
    clear hb'; subst h1
    go_enter Try.func68, Try.ntmps68
    go_wp2
    all_goals go_ret
    all_goals exact ⟨rfl, rfl⟩
  · have e1 : (r == 95) = false := by simp [h1]
    by_cases h2 : 97 ≤ r <;> by_cases h3 : r ≤ 122 <;> by_cases h4 : 65 ≤ r <;> by_cases h5 : r ≤ 90
    all_goals first
      | (exfalso; omega)
      | (simp [*] at hb'
         subst hb'; clear h1
         go_enter Try.func68, Try.ntmps68
         go_wp2
         all_goals go_ret
         all_goals exact ⟨rfl, rfl⟩)

theorem rdigit_any (r : Int) (w : World) :
    Calls Try.prog 69 #[.int .u8 r] w fun e w' => e = .returned (.bool (digB r)) ∧ w = w' := by
  by_cases h1 : 48 ≤ r
  · by_cases h2 : r ≤ 57
    · have e1 : digB r = true := by simp [digB, h1, h2]
      rw [e1]; clear e1
      go_enter Try.func69, Try.ntmps69
      go_wp2
      all_goals go_ret
      all_goals exact ⟨rfl, rfl⟩
    · have e1 : digB r = false := by simp [digB, h2]
      rw [e1]; clear e1
      go_enter Try.func69, Try.ntmps69
      go_wp2
      all_goals go_ret
      all_goals exact ⟨rfl, rfl⟩
  · have e1 : digB r = false := by simp [digB, h1]
    rw [e1]; clear e1
    go_enter Try.func69, Try.ntmps69
    go_wp2
    all_goals go_ret
    all_goals exact ⟨rfl, rfl⟩

set_option maxHeartbeats 1000000 in
theorem RIdent_any (s : ByteArray) (w : World) (hs : s.size ≤ maxLen) :
    Calls Try.prog 41 #[.string s] w fun e w' => e = .returned (.bool (identB s.data.toList)) ∧ w = w' := by
  have hs' := hs
  unfold maxLen at hs'
  unfold identB
  rw [bytes_len]
  by_cases h0 : s.size = 0
  · rw [show decide (s.size ≠ 0) = false from decide_eq_false (fun h => h h0)]
    have h0' : (s.size : Int) = 0 := by omega
    have tz : ((s.size : Int) == 0) = true := by simp [h0]
    clear h0 h0'
    go_enter Try.func41, Try.ntmps41
    go_wp2_with fail
    go_ret
    exact ⟨rfl, rfl⟩
  · rw [show decide (s.size ≠ 0) = true from decide_eq_true h0]
    have tz : ((s.size : Int) == 0) = false := beq_eq_false_iff_ne.2 (by omega)
    by_cases h16 : s.size ≤ 16
    · rw [decide_eq_true h16]
      have h00 : 0 < s.size := by omega
      have hb0 := bytes_at s 0 h00
      have hdr := drop_at s.data.toList 0 (lt_len h00)
      rw [hb0] at hdr
      obtain ⟨c0, hc0⟩ : ∃ c, s[0]'h00 = c := ⟨_, rfl⟩
      have cL := fun w => rletter_any (c0.toNat : Int) w
      rw [letB_byte] at cL
      cases hL : isL c0
      · have hz : nsz s.data.toList = 0 := by
          have := nszF_stop s.data.toList 0 true (lt_len h00) (by rw [hb0, hc0, hL]; rfl)
          exact this
        rw [hz, decide_eq_false (show ¬ 0 = s.size by omega)]
        rw [hL] at cL
        have CL := Lib.hid cL
        clear cL hL hz hdr hb0
        go_enter Try.func41, Try.ntmps41
        go_wp2_with (go_at_call 68; (with_reducible refine (CL.out _).mono ?_); rintro e w' ⟨rfl, rfl⟩)
        go_ret
        exact ⟨rfl, rfl⟩
      · rw [hL] at cL
        obtain ⟨res, hres⟩ : ∃ r, decide (nsz s.data.toList = s.size) = r := ⟨_, rfl⟩
        rw [hres]
        have CL := Lib.hid cL; have HL := Lib.hid hL; have HR := Lib.hid hres
        clear hres
        clear cL hL hdr hb0
        go_enter Try.func41, Try.ntmps41
        go_wp2_with (go_at_call 68; (with_reducible refine (CL.out _).mono ?_); rintro e w' ⟨rfl, rfl⟩)
        go_loop [3] (fun kv => ∃ k : Nat, k ≤ s.size ∧ kv = .int .i64 k ∧ Hid (nsz s.data.toList = k + nszF (decide (k = 0)) (s.data.toList.drop k))) (fun kv => s.size - (intOf kv).toNat)
        case atStart => exact ⟨0, Nat.zero_le _, rfl, by simp [Hid, nsz]⟩
        case round =>
          obtain ⟨k, hk, rfl, hd⟩ := hrel
          by_cases hlt : k < s.size
          · have hb := bytes_at s k hlt
            obtain ⟨c, hc⟩ : ∃ c, s[k]'hlt = c := ⟨_, rfl⟩
            have dL := fun w => rletter_any (c.toNat : Int) w
            have dD := fun w => rdigit_any (c.toNat : Int) w
            rw [letB_byte] at dL; rw [digB_byte] at dD
            cases hL2 : isL c
            · rw [hL2] at dL
              cases hD2 : isD c
              · rw [hD2] at dD
                have hz := nszF_stop s.data.toList k (decide (k = 0)) (lt_len hlt) (by rw [hb, hc, hL2, hD2]; simp)
                have hne : nsz s.data.toList = k := by rw [hd.out, hz]; rfl
                have hrf : res = false := by rw [← HR.out, hne]; exact decide_eq_false (by omega)
                have HRF := Lib.hid hrf
                clear hrf
                have DL := Lib.hid dL; have DD := Lib.hid dD
                clear dL dD hz hne hb hL2 hD2
                go_wp2_with (first | (go_at_call 68; (with_reducible refine (DL.out _).mono ?_); rintro e w' ⟨rfl, rfl⟩) | (go_at_call 69; (with_reducible refine (DD.out _).mono ?_); rintro e w' ⟨rfl, rfl⟩))
                go_ret
                exact ⟨by rw [HRF.out]; rfl, rfl⟩
              · rw [hD2] at dD
                have h0k : k ≠ 0 := by
                  intro e; subst e
                  rw [hc0] at hc; subst hc; rw [HL.out] at hL2; cases hL2
                have hz := nszF_step s.data.toList k (decide (k = 0)) (lt_len hlt) (by rw [hb, hc, hL2, hD2]; simp [h0k])
                have DL := Lib.hid dL; have DD := Lib.hid dD; have HZ := Lib.hid hz
                clear dL dD hz hb hL2 hD2 h0k
                go_wp2_with (first | (go_at_call 68; (with_reducible refine (DL.out _).mono ?_); rintro e w' ⟨rfl, rfl⟩) | (go_at_call 69; (with_reducible refine (DD.out _).mono ?_); rintro e w' ⟨rfl, rfl⟩))
                go_round
                case rel => exact ⟨k + 1, by omega, by go_num, by have := hd.out; rw [HZ.out] at this; unfold Hid; rw [show decide (k + 1 = 0) = false from by simp]; omega⟩
                case measure => simp [intOf]; omega
            · rw [hL2] at dL
              have hz := nszF_step s.data.toList k (decide (k = 0)) (lt_len hlt) (by rw [hb, hc, hL2]; simp)
              have DL := Lib.hid dL; have HZ := Lib.hid hz
              clear dL dD hz hb hL2
              go_wp2_with (go_at_call 68; (with_reducible refine (DL.out _).mono ?_); rintro e w' ⟨rfl, rfl⟩)
              go_round
              case rel => exact ⟨k + 1, by omega, by go_num, by have := hd.out; rw [HZ.out] at this; unfold Hid; rw [show decide (k + 1 = 0) = false from by simp]; omega⟩
              case measure => simp [intOf]; omega
          · have hks : k = s.size := by omega
            have hne : nsz s.data.toList = s.size := by
              have := hd.out; rw [hks, ← bytes_len, nszF_end] at this; rw [this, bytes_len]; rfl
            have hrf : res = true := by rw [← HR.out, hne]; exact decide_eq_true rfl
            have HRF := Lib.hid hrf
            clear hne hlt hrf
            go_wp2
            go_ret
            exact ⟨by rw [HRF.out]; rfl, rfl⟩
    · rw [decide_eq_false h16]
      have h16' : 16 < (s.size : Int) := by omega
      clear h16
      go_enter Try.func41, Try.ntmps41
      go_wp2_with fail
      go_ret
      exact ⟨rfl, rfl⟩
end Sp
end Go.Proofs.Ytjjpjkkaogfoaaa
