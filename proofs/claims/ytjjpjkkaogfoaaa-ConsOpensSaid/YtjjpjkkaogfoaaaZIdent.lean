/- Ident: what it tells of each text. -/
import Derived.Test.YtjjpjkkaogfoaaaScanN
import Derived.Test.YtjjpjkkaogfoaaaZPure
namespace Go.Proofs.Ytjjpjkkaogfoaaa
open Go.RowKit
namespace Sp
open Sc

set_option maxHeartbeats 400000 in
theorem Ident_any (s : ByteArray) (w : World) (hs : s.size ≤ maxLen) :
    Calls Try.prog 81 #[.string s] w fun e w' => e = .returned (.bool (identB s.data.toList)) ∧ Below w.heap.size w w' := by
  have he := toList_isEmpty s
  have C := nameSize_any s
  have hle := nsz_le s.data.toList
  unfold identB
  rw [bytes_len] at hle ⊢
  have hs' := hs
  unfold maxLen at hs'
  by_cases h0 : s.size = 0
  · rw [decide_eq_true h0] at he
    rw [show decide (s.size ≠ 0) = false from decide_eq_false (by omega)]
    clear h0 C
    go_enter Try.func81, Try.ntmps81
    go_wp2_with fail
    go_ret
    exact ⟨rfl, Below.refl _ _⟩
  · rw [decide_eq_false h0] at he
    rw [show decide (s.size ≠ 0) = true from decide_eq_true h0]
    by_cases h16 : s.size ≤ 16
    · rw [decide_eq_true h16]
      generalize nsz s.data.toList = k at *
      have HC := Lib.hid C; clear C h0
      by_cases hk : k = s.size
      · rw [decide_eq_true hk]
        subst hk
        go_enter Try.func81, Try.ntmps81
        go_wp2_with (go_at_call 91; (with_reducible refine (HC.out _ hs).mono ?_); rintro e w1 ⟨rfl, hb⟩)
        go_ret
        exact ⟨rfl, by assumption⟩
      · rw [decide_eq_false hk]
        have tk : ((k : Int) == (s.size : Int)) = false := by simp; omega
        have tk' : (k == s.size) = false := by simp; omega
        clear hk
        go_enter Try.func81, Try.ntmps81
        go_wp2_with (go_at_call 91; (with_reducible refine (HC.out _ hs).mono ?_); rintro e w1 ⟨rfl, hb⟩)
        go_ret
        exact ⟨rfl, by assumption⟩
    · rw [decide_eq_false h16]
      have h16' : 16 < (s.size : Int) := by omega
      clear C
      go_enter Try.func81, Try.ntmps81
      go_wp2_with fail
      go_ret
      exact ⟨rfl, Below.refl _ _⟩
end Sp
end Go.Proofs.Ytjjpjkkaogfoaaa
