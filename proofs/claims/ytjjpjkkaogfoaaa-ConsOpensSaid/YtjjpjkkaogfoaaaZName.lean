/- Names: one behind the other; the words of types; the builtin functions. -/
import Derived.Test.YtjjpjkkaogfoaaaZMem
import Derived.WalkLawsBesides
namespace Go.Proofs.Ytjjpjkkaogfoaaa
open Go.RowKit
namespace Sp
open Sc

theorem toList_mk' (l : List UInt8) : (⟨l.toArray⟩ : ByteArray).toList = l := by rw [ByteArray.toList_mk]

set_option maxHeartbeats 800000 in
theorem nameError_any (a n : List UInt8) (tk : Bool) (w : World) (hn : n.length ≤ maxLen) :
    Calls Try.prog 61 #[.string ⟨a.toArray⟩, .string ⟨n.toArray⟩, .bool tk] w fun e w' => e = .returned (.int .i64 (nameE a n tk)) ∧ Below w.heap.size w w' := by
  have CI := fun w => Ident_any ⟨n.toArray⟩ w (by show n.length ≤ maxLen; exact hn)
  rw [show (⟨n.toArray⟩ : ByteArray).data.toList = n from rfl] at CI
  have e1 := toList_mk' n
  have e2 := toList_mk' a
  have hE : nameE a n tk = if (tk || !identB n) = true then 15 else if (Op.bytesLess n a || n == a) = true then 6 else 0 := rfl
  cases tk
  · cases hI : identB n
    · rw [hI] at CI
      rw [hI, if_pos (show (false || !false) = true from rfl)] at hE
      rw [hE]
      have HC := Lib.hid CI; clear CI hI hE
      go_enter Try.func61, Try.ntmps61
      go_wp2_with (go_at_call 81; (with_reducible refine (HC.out _).mono ?_); rintro e w1 ⟨rfl, hb⟩)
      go_ret
      exact ⟨rfl, hb⟩
    · rw [hI] at CI
      rw [hI, if_neg (show ¬ (false || !true) = true by decide)] at hE
      have HC := Lib.hid CI; clear CI hI
      cases hL : (Op.bytesLess n a || n == a)
      · rw [hL, if_neg (by decide)] at hE
        rw [hE]
        clear hE
        go_enter Try.func61, Try.ntmps61
        go_wp2_with (go_at_call 81; (with_reducible refine (HC.out _).mono ?_); rintro e w1 ⟨rfl, hb⟩)
        go_ret
        exact ⟨rfl, hb⟩
      · rw [hL, if_pos rfl] at hE
        rw [hE]
        clear hE
        go_enter Try.func61, Try.ntmps61
        go_wp2_with (go_at_call 81; (with_reducible refine (HC.out _).mono ?_); rintro e w1 ⟨rfl, hb⟩)
        go_ret
        exact ⟨rfl, hb⟩
  · rw [if_pos (show (true || !identB n) = true from rfl)] at hE
    rw [hE]
    clear hE CI
    go_enter Try.func61, Try.ntmps61
    go_wp2_with fail
    go_ret
    exact ⟨rfl, Below.refl _ _⟩

theorem typeWord_cases (s : List UInt8) (h : wordB s = true) : s = [66, 111, 111, 108] ∨ s = [73, 110, 116] ∨ s = [84, 101, 120, 116] ∨ s = [76, 105, 115, 116] ∨ s = [77, 97, 112] ∨ s = [79, 112, 116] ∨ s = [85, 110, 105, 111, 110] := by
  unfold wordB at h
  simpa using h
theorem typeWord_no (s : List UInt8) (h : wordB s = false) : (s == [66, 111, 111, 108]) = false ∧ (s == [73, 110, 116]) = false ∧ (s == [84, 101, 120, 116]) = false ∧ (s == [76, 105, 115, 116]) = false ∧ (s == [77, 97, 112]) = false ∧ (s == [79, 112, 116]) = false ∧ (s == [85, 110, 105, 111, 110]) = false := by
  unfold wordB at h
  simpa using h
set_option maxHeartbeats 4000000 in
theorem typeWord_any (s : List UInt8) (w : World) :
    Calls Try.prog 62 #[.string ⟨s.toArray⟩] w fun e w' => e = .returned (.bool (wordB s)) ∧ w = w' := by
  cases hb : wordB s
  · have e1 := toList_mk' s
    obtain ⟨t0, t1, t2, t3, t4, t5, t6⟩ := typeWord_no s hb
    go_enter Try.func62, Try.ntmps62
    go_wp2
    go_ret
    exact ⟨rfl, rfl⟩
  · rcases typeWord_cases s hb with rfl | rfl | rfl | rfl | rfl | rfl | rfl
    all_goals
      go_enter Try.func62, Try.ntmps62
      go_wp2
      go_ret
      exact ⟨rfl, rfl⟩
end Sp
end Go.Proofs.Ytjjpjkkaogfoaaa
