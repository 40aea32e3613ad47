/- The small functions of package sprueref1: what each call returns; the world stays. -/
import Derived.Test.YtaillpnjknnhdaaDoorScanA
import Derived.Test.YtaillpnjknnhdaaDoorToks
namespace Go.Proofs.YtaillpnjknnhdaaDoor
open Go.RowKit
namespace Sc

theorem rletter_any (r : Int) (w : World) :
    Calls Tryd.prog 25 #[.int .u8 r] w fun e w' => e = .returned (.bool (letB r)) ∧ w = w' := by
  obtain ⟨b, hb⟩ : ∃ b, letB r = b := ⟨_, rfl⟩
  rw [hb]
  have hb' : b = (decide (r = 95) || (decide (97 ≤ r) && decide (r ≤ 122)) || (decide (65 ≤ r) && decide (r ≤ 90))) := hb.symm
  clear hb
  by_cases h1 : r = 95
  · obtain rfl : b = true := by rw [hb']; simp [h1]
    clear hb'; subst h1
    go_enter Tryd.func25, Tryd.ntmps25
    go_wp2
    all_goals go_ret
    all_goals exact ⟨rfl, rfl⟩
  · have e1 : (r == 95) = false := by simp [h1]
    by_cases h2 : 97 ≤ r <;> by_cases h3 : r ≤ 122 <;> by_cases h4 : 65 ≤ r <;> by_cases h5 : r ≤ 90
    all_goals first
      | (exfalso; omega)
      | (simp only [h1, h2, h3, h4, h5, decide_true, decide_false, Bool.and_self, Bool.or_self, Bool.and_true, Bool.and_false, Bool.false_and, Bool.or_false, Bool.or_true] at hb'
         subst hb'; clear h1
         go_enter Tryd.func25, Tryd.ntmps25
         go_wp2
         all_goals go_ret
         all_goals exact ⟨rfl, rfl⟩)

theorem rdigit_any (r : Int) (w : World) :
    Calls Tryd.prog 26 #[.int .u8 r] w fun e w' => e = .returned (.bool (digB r)) ∧ w = w' := by
  by_cases h1 : 48 ≤ r
  · by_cases h2 : r ≤ 57
    · have e1 : digB r = true := by simp [digB, h1, h2]
      rw [e1]; clear e1
      go_enter Tryd.func26, Tryd.ntmps26
      go_wp2
      all_goals go_ret
      all_goals exact ⟨rfl, rfl⟩
    · have e1 : digB r = false := by simp [digB, h2]
      rw [e1]; clear e1
      go_enter Tryd.func26, Tryd.ntmps26
      go_wp2
      all_goals go_ret
      all_goals exact ⟨rfl, rfl⟩
  · have e1 : digB r = false := by simp [digB, h1]
    rw [e1]; clear e1
    go_enter Tryd.func26, Tryd.ntmps26
    go_wp2
    all_goals go_ret
    all_goals exact ⟨rfl, rfl⟩

theorem rblank_any (c : UInt8) (w : World) :
    Calls Tryd.prog 22 #[.int .u8 c.toNat] w fun e w' => e = .returned (.bool (isB c)) ∧ w = w' := by
  by_cases h1 : c.toNat = 32
  · have e : isB c = true := by simp [isB, h1]
    have t1 : ((c.toNat : Int) == 32) = true := by simp [h1]
    rw [e]; clear e h1
    go_enter Tryd.func22, Tryd.ntmps22
    go_wp2
    all_goals go_ret
    all_goals exact ⟨rfl, rfl⟩
  · have t1 : ((c.toNat : Int) == 32) = false := by simp; omega
    by_cases h2 : c.toNat = 9
    · have e : isB c = true := by simp [isB, h2]
      have t2 : ((c.toNat : Int) == 9) = true := by simp [h2]
      rw [e]; clear e h1 h2
      go_enter Tryd.func22, Tryd.ntmps22
      go_wp2
      all_goals go_ret
      all_goals exact ⟨rfl, rfl⟩
    · have t2 : ((c.toNat : Int) == 9) = false := by simp; omega
      by_cases h3 : c.toNat = 10
      · have e : isB c = true := by simp [isB, h3]
        have t3 : ((c.toNat : Int) == 10) = true := by simp [h3]
        rw [e]; clear e h1 h2 h3
        go_enter Tryd.func22, Tryd.ntmps22
        go_wp2
        all_goals go_ret
        all_goals exact ⟨rfl, rfl⟩
      · have t3 : ((c.toNat : Int) == 10) = false := by simp; omega
        by_cases h4 : c.toNat = 13
        · have e : isB c = true := by simp [isB, h4]
          have t4 : ((c.toNat : Int) == 13) = true := by simp [h4]
          rw [e]; clear e h1 h2 h3 h4
          go_enter Tryd.func22, Tryd.ntmps22
          go_wp2
          all_goals go_ret
          all_goals exact ⟨rfl, rfl⟩
        · have e : isB c = false := by simp [isB, h1, h2, h3, h4]
          have t4 : ((c.toNat : Int) == 13) = false := by simp; omega
          rw [e]; clear e h1 h2 h3 h4
          go_enter Tryd.func22, Tryd.ntmps22
          go_wp2
          all_goals go_ret
          all_goals exact ⟨rfl, rfl⟩
end Sc
end Go.Proofs.YtaillpnjknnhdaaDoor
