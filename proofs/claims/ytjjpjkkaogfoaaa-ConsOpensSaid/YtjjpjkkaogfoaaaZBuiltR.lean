/- The builtin functions, told by the document. -/
import Derived.Test.YtjjpjkkaogfoaaaZBuilt
namespace Go.Proofs.Ytjjpjkkaogfoaaa
open Go.RowKit
namespace Sp
open Sc

set_option maxHeartbeats 4000000 in
theorem Builtin_ref (s : List UInt8) (w : World) :
    Calls Try.prog 44 #[.string ⟨s.toArray⟩] w fun e w' => e = .returned (.bool (builtinB s)) ∧ w = w' := by
  cases hb : builtinB s
  · have e1 := toList_mk' s
    obtain ⟨t0, t1, t2, t3, t4, t5, t6, t7, t8, t9, t10, t11, t12, t13, t14, t15, t16, t17, t18, t19, t20, t21, t22⟩ := Builtin_no s hb
    go_enter Try.func44, Try.ntmps44
    go_wp2
    go_ret
    exact ⟨rfl, rfl⟩
  · rcases Builtin_cases s hb with rfl | rfl | rfl | rfl | rfl | rfl | rfl | rfl | rfl | rfl | rfl | rfl | rfl | rfl | rfl | rfl | rfl | rfl | rfl | rfl | rfl | rfl | rfl
    all_goals
      go_enter Try.func44, Try.ntmps44
      go_wp2
      go_ret
      exact ⟨rfl, rfl⟩
end Sp
end Go.Proofs.Ytjjpjkkaogfoaaa
