/- The builtin functions' names. -/
import Derived.Test.YtmhihnpimanhfaaC9
namespace Go.Proofs.Ytmhihnpimanhfaa
open Go.RowKit
namespace Sp
open Sc
theorem Builtin_cases (s : List UInt8) (h : builtinB s = true) : s = [108, 101, 110] ∨ s = [110, 111, 116] ∨ s = [97, 110, 100] ∨ s = [111, 114] ∨ s = [101, 113] ∨ s = [108, 116] ∨ s = [97, 100, 100] ∨ s = [115, 117, 98] ∨ s = [109, 117, 108] ∨ s = [115, 104, 108] ∨ s = [115, 104, 114] ∨ s = [105, 56] ∨ s = [105, 49, 54] ∨ s = [105, 51, 50] ∨ s = [117, 56] ∨ s = [117, 49, 54] ∨ s = [117, 51, 50] ∨ s = [99, 97, 116] ∨ s = [116, 101, 120, 116] ∨ s = [97, 116] ∨ s = [103, 101, 116] ∨ s = [104, 97, 115] ∨ s = [111, 114, 101, 108, 115, 101] := by
  unfold builtinB at h
  simpa using h
theorem Builtin_no (s : List UInt8) (h : builtinB s = false) : (s == [108, 101, 110]) = false ∧ (s == [110, 111, 116]) = false ∧ (s == [97, 110, 100]) = false ∧ (s == [111, 114]) = false ∧ (s == [101, 113]) = false ∧ (s == [108, 116]) = false ∧ (s == [97, 100, 100]) = false ∧ (s == [115, 117, 98]) = false ∧ (s == [109, 117, 108]) = false ∧ (s == [115, 104, 108]) = false ∧ (s == [115, 104, 114]) = false ∧ (s == [105, 56]) = false ∧ (s == [105, 49, 54]) = false ∧ (s == [105, 51, 50]) = false ∧ (s == [117, 56]) = false ∧ (s == [117, 49, 54]) = false ∧ (s == [117, 51, 50]) = false ∧ (s == [99, 97, 116]) = false ∧ (s == [116, 101, 120, 116]) = false ∧ (s == [97, 116]) = false ∧ (s == [103, 101, 116]) = false ∧ (s == [104, 97, 115]) = false ∧ (s == [111, 114, 101, 108, 115, 101]) = false := by
  unfold builtinB at h
  simpa using h
set_option maxHeartbeats 4000000 in
theorem Builtin_any (s : List UInt8) (w : World) :
    Calls Try.prog 87 #[.string ⟨s.toArray⟩] w fun e w' => e = .returned (.bool (builtinB s)) ∧ w = w' := by
  cases hb : builtinB s
  · have e1 := toList_mk' s
    obtain ⟨t0, t1, t2, t3, t4, t5, t6, t7, t8, t9, t10, t11, t12, t13, t14, t15, t16, t17, t18, t19, t20, t21, t22⟩ := Builtin_no s hb
    go_enter Try.func87, Try.ntmps87
    go_wp2
    go_ret
    exact ⟨rfl, rfl⟩
  · rcases Builtin_cases s hb with rfl | rfl | rfl | rfl | rfl | rfl | rfl | rfl | rfl | rfl | rfl | rfl | rfl | rfl | rfl | rfl | rfl | rfl | rfl | rfl | rfl | rfl | rfl
    all_goals
      go_enter Try.func87, Try.ntmps87
      go_wp2
      go_ret
      exact ⟨rfl, rfl⟩
end Sp
end Go.Proofs.Ytmhihnpimanhfaa
