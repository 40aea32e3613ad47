/- What a type is by itself: has, formed, fieldNames. -/
import Derived.Test.YtdophmlnmbcjlaaT6
namespace Go.Proofs.Ytdophmlnmbcjlaa
open Go.RowKit
namespace Sp
open Sc
set_option maxHeartbeats 800000 in
theorem has_any (w : World) (mb : Nat) (l : List (List UInt8 × C4)) (s : List UInt8) (hM : MapV w mb l) (hs : s.length ≤ maxLen) :
    Calls Try.prog 88 #[.map (some mb), .string ⟨s.toArray⟩] w fun e w' => e = .returned (.bool (hasZ l s)) ∧ Below w.heap.size w w' := by
  have hr := hM.at_ok s hs
  generalize lookC l s = c at hr
  obtain ⟨k, n, an, ln, cn, ak, lk, ck⟩ := c
  unfold C4.val at hr
  clear hM
  generalize hasZ l s = b at *
  go_enter Try.func88, Try.ntmps88
  go_wp2
  go_ret
  exact ⟨rfl, (Below.refl _ _).alloc (Nat.le_refl _) _⟩
theorem form_eq (k : Int) (nm : List UInt8) (ns : List (List UInt8)) (nk : Nat) :
    formB k nm ns nk = (decide (nk = kidsN k ns.length) && (decide (nm = []) || decide (k = 9)) && (decide (ns.length = 0) || decide (k = 7 ∨ k = 8))) := rfl
theorem emp_eq (l : List UInt8) : l.isEmpty = decide (l = []) := by cases l <;> rfl
set_option maxHeartbeats 8000000 in
theorem formed_any (k : Int) (nm : List UInt8) (ns : List (List UInt8)) (nk : Nat) (an ak : Option Addr) (cn ck : Nat) (w : World) (hn : ns.length ≤ maxLen) (hk : nk ≤ maxLen) :
    Calls Try.prog 87 #[.agg #[.int .i64 k, .string ⟨nm.toArray⟩, .slice an ns.length cn, .slice ak nk ck]] w fun e w' => e = .returned (.bool (formB k nm ns nk)) ∧ Below w.heap.size w w' := by
  have e1 := toList_mk' nm
  have hE := form_eq k nm ns nk
  unfold kidsN at hE
  unfold maxLen at hn hk
  generalize ns.length = nn at *
  have hc : k = 4 ∨ k = 5 ∨ k = 6 ∨ k = 7 ∨ k = 8 ∨ k = 9 ∨ (k ≠ 4 ∧ k ≠ 5 ∧ k ≠ 6 ∧ k ≠ 7 ∧ k ≠ 8 ∧ k ≠ 9) := by omega
  have h0 : nm = [] ∨ nm ≠ [] := by by_cases h : nm = []; exact .inl h; exact .inr h
  have hA := fun (x : Nat) => Decidable.em (nk = x)
  rcases hc with rfl | rfl | rfl | rfl | rfl | rfl | ⟨a4, a5, a6, a7, a8, a9⟩
  · rw [show (if (4 : Int) = 4 ∨ (4 : Int) = 5 ∨ (4 : Int) = 6 then 1 else if (4 : Int) = 7 ∨ (4 : Int) = 8 then nn else 0) = 1 from rfl] at hE
    by_cases hA : nk = 1
    · rw [decide_eq_true hA] at hE
      subst hA
      rcases h0 with rfl | hB
      · rw [decide_eq_true rfl] at hE
        by_cases hC : nn = 0
        · subst hC
          rw [decide_eq_true rfl] at hE
          have HE := Lib.hid hE; clear hE
          go_enter Try.func87, Try.ntmps87
          go_wp2
          go_ret
          exact ⟨by rw [HE.out]; rfl, (Below.refl _ _).alloc (Nat.le_refl _) _⟩
        · rw [decide_eq_false hC] at hE
          have tc : ((nn : Int) == 0) = false := by simp; omega
          have tc2 : (nn == 0) = false := by simp; omega
          have HE := Lib.hid hE; clear hE hC
          go_enter Try.func87, Try.ntmps87
          go_wp2
          go_ret
          exact ⟨by rw [HE.out]; rfl, (Below.refl _ _).alloc (Nat.le_refl _) _⟩
      · rw [decide_eq_false hB] at hE
        have tb : nm.isEmpty = false := by rw [emp_eq]; exact decide_eq_false hB
        have tb2 : (nm == []) = false := by simpa using hB
        have HE := Lib.hid hE; clear hE hB
        go_enter Try.func87, Try.ntmps87
        go_wp2
        go_ret
        exact ⟨by rw [HE.out]; rfl, (Below.refl _ _).alloc (Nat.le_refl _) _⟩
    · rw [decide_eq_false hA] at hE
      have ta : ((nk : Int) == 1) = false := by simp; omega
      have ta2 : (nk == 1) = false := by simp; omega
      have HE := Lib.hid hE; clear hE hA
      go_enter Try.func87, Try.ntmps87
      go_wp2
      go_ret
      exact ⟨by rw [HE.out]; rfl, (Below.refl _ _).alloc (Nat.le_refl _) _⟩
  · rw [show (if (5 : Int) = 4 ∨ (5 : Int) = 5 ∨ (5 : Int) = 6 then 1 else if (5 : Int) = 7 ∨ (5 : Int) = 8 then nn else 0) = 1 from rfl] at hE
    by_cases hA : nk = 1
    · rw [decide_eq_true hA] at hE
      subst hA
      rcases h0 with rfl | hB
      · rw [decide_eq_true rfl] at hE
        by_cases hC : nn = 0
        · subst hC
          rw [decide_eq_true rfl] at hE
          have HE := Lib.hid hE; clear hE
          go_enter Try.func87, Try.ntmps87
          go_wp2
          go_ret
          exact ⟨by rw [HE.out]; rfl, (Below.refl _ _).alloc (Nat.le_refl _) _⟩
        · rw [decide_eq_false hC] at hE
          have tc : ((nn : Int) == 0) = false := by simp; omega
          have tc2 : (nn == 0) = false := by simp; omega
          have HE := Lib.hid hE; clear hE hC
          go_enter Try.func87, Try.ntmps87
          go_wp2
          go_ret
          exact ⟨by rw [HE.out]; rfl, (Below.refl _ _).alloc (Nat.le_refl _) _⟩
      · rw [decide_eq_false hB] at hE
        have tb : nm.isEmpty = false := by rw [emp_eq]; exact decide_eq_false hB
        have tb2 : (nm == []) = false := by simpa using hB
        have HE := Lib.hid hE; clear hE hB
        go_enter Try.func87, Try.ntmps87
        go_wp2
        go_ret
        exact ⟨by rw [HE.out]; rfl, (Below.refl _ _).alloc (Nat.le_refl _) _⟩
    · rw [decide_eq_false hA] at hE
      have ta : ((nk : Int) == 1) = false := by simp; omega
      have ta2 : (nk == 1) = false := by simp; omega
      have HE := Lib.hid hE; clear hE hA
      go_enter Try.func87, Try.ntmps87
      go_wp2
      go_ret
      exact ⟨by rw [HE.out]; rfl, (Below.refl _ _).alloc (Nat.le_refl _) _⟩
  · rw [show (if (6 : Int) = 4 ∨ (6 : Int) = 5 ∨ (6 : Int) = 6 then 1 else if (6 : Int) = 7 ∨ (6 : Int) = 8 then nn else 0) = 1 from rfl] at hE
    by_cases hA : nk = 1
    · rw [decide_eq_true hA] at hE
      subst hA
      rcases h0 with rfl | hB
      · rw [decide_eq_true rfl] at hE
        by_cases hC : nn = 0
        · subst hC
          rw [decide_eq_true rfl] at hE
          have HE := Lib.hid hE; clear hE
          go_enter Try.func87, Try.ntmps87
          go_wp2
          go_ret
          exact ⟨by rw [HE.out]; rfl, (Below.refl _ _).alloc (Nat.le_refl _) _⟩
        · rw [decide_eq_false hC] at hE
          have tc : ((nn : Int) == 0) = false := by simp; omega
          have tc2 : (nn == 0) = false := by simp; omega
          have HE := Lib.hid hE; clear hE hC
          go_enter Try.func87, Try.ntmps87
          go_wp2
          go_ret
          exact ⟨by rw [HE.out]; rfl, (Below.refl _ _).alloc (Nat.le_refl _) _⟩
      · rw [decide_eq_false hB] at hE
        have tb : nm.isEmpty = false := by rw [emp_eq]; exact decide_eq_false hB
        have tb2 : (nm == []) = false := by simpa using hB
        have HE := Lib.hid hE; clear hE hB
        go_enter Try.func87, Try.ntmps87
        go_wp2
        go_ret
        exact ⟨by rw [HE.out]; rfl, (Below.refl _ _).alloc (Nat.le_refl _) _⟩
    · rw [decide_eq_false hA] at hE
      have ta : ((nk : Int) == 1) = false := by simp; omega
      have ta2 : (nk == 1) = false := by simp; omega
      have HE := Lib.hid hE; clear hE hA
      go_enter Try.func87, Try.ntmps87
      go_wp2
      go_ret
      exact ⟨by rw [HE.out]; rfl, (Below.refl _ _).alloc (Nat.le_refl _) _⟩
  · rw [show (if (7 : Int) = 4 ∨ (7 : Int) = 5 ∨ (7 : Int) = 6 then 1 else if (7 : Int) = 7 ∨ (7 : Int) = 8 then nn else 0) = nn from rfl] at hE
    by_cases hA : nk = nn
    · subst hA
      rw [decide_eq_true rfl] at hE
      rcases h0 with rfl | hB
      · rw [decide_eq_true rfl] at hE
        by_cases hC : nk = 0
        · subst hC
          rw [decide_eq_true rfl] at hE
          have HE := Lib.hid hE; clear hE
          go_enter Try.func87, Try.ntmps87
          go_wp2
          go_ret
          exact ⟨by rw [HE.out]; rfl, (Below.refl _ _).alloc (Nat.le_refl _) _⟩
        · rw [decide_eq_false hC] at hE
          have tc : ((nk : Int) == 0) = false := by simp; omega
          have tc2 : (nk == 0) = false := by simp; omega
          have HE := Lib.hid hE; clear hE hC
          go_enter Try.func87, Try.ntmps87
          go_wp2
          go_ret
          exact ⟨by rw [HE.out]; rfl, (Below.refl _ _).alloc (Nat.le_refl _) _⟩
      · rw [decide_eq_false hB] at hE
        have tb : nm.isEmpty = false := by rw [emp_eq]; exact decide_eq_false hB
        have tb2 : (nm == []) = false := by simpa using hB
        have HE := Lib.hid hE; clear hE hB
        go_enter Try.func87, Try.ntmps87
        go_wp2
        go_ret
        exact ⟨by rw [HE.out]; rfl, (Below.refl _ _).alloc (Nat.le_refl _) _⟩
    · rw [decide_eq_false hA] at hE
      have ta : ((nk : Int) == (nn : Int)) = false := by simp; omega
      have ta2 : (nk == nn) = false := by simp; omega
      have HE := Lib.hid hE; clear hE hA
      go_enter Try.func87, Try.ntmps87
      go_wp2
      go_ret
      exact ⟨by rw [HE.out]; rfl, (Below.refl _ _).alloc (Nat.le_refl _) _⟩
  · rw [show (if (8 : Int) = 4 ∨ (8 : Int) = 5 ∨ (8 : Int) = 6 then 1 else if (8 : Int) = 7 ∨ (8 : Int) = 8 then nn else 0) = nn from rfl] at hE
    by_cases hA : nk = nn
    · subst hA
      rw [decide_eq_true rfl] at hE
      rcases h0 with rfl | hB
      · rw [decide_eq_true rfl] at hE
        by_cases hC : nk = 0
        · subst hC
          rw [decide_eq_true rfl] at hE
          have HE := Lib.hid hE; clear hE
          go_enter Try.func87, Try.ntmps87
          go_wp2
          go_ret
          exact ⟨by rw [HE.out]; rfl, (Below.refl _ _).alloc (Nat.le_refl _) _⟩
        · rw [decide_eq_false hC] at hE
          have tc : ((nk : Int) == 0) = false := by simp; omega
          have tc2 : (nk == 0) = false := by simp; omega
          have HE := Lib.hid hE; clear hE hC
          go_enter Try.func87, Try.ntmps87
          go_wp2
          go_ret
          exact ⟨by rw [HE.out]; rfl, (Below.refl _ _).alloc (Nat.le_refl _) _⟩
      · rw [decide_eq_false hB] at hE
        have tb : nm.isEmpty = false := by rw [emp_eq]; exact decide_eq_false hB
        have tb2 : (nm == []) = false := by simpa using hB
        have HE := Lib.hid hE; clear hE hB
        go_enter Try.func87, Try.ntmps87
        go_wp2
        go_ret
        exact ⟨by rw [HE.out]; rfl, (Below.refl _ _).alloc (Nat.le_refl _) _⟩
    · rw [decide_eq_false hA] at hE
      have ta : ((nk : Int) == (nn : Int)) = false := by simp; omega
      have ta2 : (nk == nn) = false := by simp; omega
      have HE := Lib.hid hE; clear hE hA
      go_enter Try.func87, Try.ntmps87
      go_wp2
      go_ret
      exact ⟨by rw [HE.out]; rfl, (Below.refl _ _).alloc (Nat.le_refl _) _⟩
  · rw [show (if (9 : Int) = 4 ∨ (9 : Int) = 5 ∨ (9 : Int) = 6 then 1 else if (9 : Int) = 7 ∨ (9 : Int) = 8 then nn else 0) = 0 from rfl] at hE
    by_cases hA : nk = 0
    · rw [decide_eq_true hA] at hE
      subst hA
      rcases h0 with rfl | hB
      · rw [decide_eq_true rfl] at hE
        by_cases hC : nn = 0
        · subst hC
          rw [decide_eq_true rfl] at hE
          have HE := Lib.hid hE; clear hE
          go_enter Try.func87, Try.ntmps87
          go_wp2
          go_ret
          exact ⟨by rw [HE.out]; rfl, (Below.refl _ _).alloc (Nat.le_refl _) _⟩
        · rw [decide_eq_false hC] at hE
          have tc : ((nn : Int) == 0) = false := by simp; omega
          have tc2 : (nn == 0) = false := by simp; omega
          have HE := Lib.hid hE; clear hE hC
          go_enter Try.func87, Try.ntmps87
          go_wp2
          go_ret
          exact ⟨by rw [HE.out]; rfl, (Below.refl _ _).alloc (Nat.le_refl _) _⟩
      · rw [decide_eq_false hB] at hE
        have tb : nm.isEmpty = false := by rw [emp_eq]; exact decide_eq_false hB
        have tb2 : (nm == []) = false := by simpa using hB
        by_cases hC : nn = 0
        · subst hC
          rw [decide_eq_true rfl] at hE
          have HE := Lib.hid hE; clear hE
          go_enter Try.func87, Try.ntmps87
          go_wp2
          go_ret
          exact ⟨by rw [HE.out]; rfl, (Below.refl _ _).alloc (Nat.le_refl _) _⟩
        · rw [decide_eq_false hC] at hE
          have tc : ((nn : Int) == 0) = false := by simp; omega
          have tc2 : (nn == 0) = false := by simp; omega
          have HE := Lib.hid hE; clear hE hC
          go_enter Try.func87, Try.ntmps87
          go_wp2
          go_ret
          exact ⟨by rw [HE.out]; rfl, (Below.refl _ _).alloc (Nat.le_refl _) _⟩
    · rw [decide_eq_false hA] at hE
      have ta : ((nk : Int) == 0) = false := by simp; omega
      have ta2 : (nk == 0) = false := by simp; omega
      have HE := Lib.hid hE; clear hE hA
      go_enter Try.func87, Try.ntmps87
      go_wp2
      go_ret
      exact ⟨by rw [HE.out]; rfl, (Below.refl _ _).alloc (Nat.le_refl _) _⟩
  · have t4 : (k == 4) = false := by simpa using a4
    have t5 : (k == 5) = false := by simpa using a5
    have t6 : (k == 6) = false := by simpa using a6
    have t7 : (k == 7) = false := by simpa using a7
    have t8 : (k == 8) = false := by simpa using a8
    have t9 : (k == 9) = false := by simpa using a9
    have tk : kidsN k nn = 0 := by unfold kidsN; rw [if_neg (by omega), if_neg (by omega)]
    have t78 : decide (k = 7 ∨ k = 8) = false := decide_eq_false (by omega)
    have t9d : decide (k = 9) = false := decide_eq_false a9
    rw [← kidsN, tk, t78, t9d] at hE
    clear a4 a5 a6 a7 a8 a9 tk t78 t9d
    by_cases hA : nk = 0
    · rw [decide_eq_true hA] at hE
      subst hA
      rcases h0 with rfl | hB
      · rw [decide_eq_true rfl] at hE
        by_cases hC : nn = 0
        · subst hC
          rw [decide_eq_true rfl] at hE
          have HE := Lib.hid hE; clear hE
          go_enter Try.func87, Try.ntmps87
          go_wp2
          go_ret
          exact ⟨by rw [HE.out]; rfl, (Below.refl _ _).alloc (Nat.le_refl _) _⟩
        · rw [decide_eq_false hC] at hE
          have tc : ((nn : Int) == 0) = false := by simp; omega
          have tc2 : (nn == 0) = false := by simp; omega
          have HE := Lib.hid hE; clear hE hC
          go_enter Try.func87, Try.ntmps87
          go_wp2
          go_ret
          exact ⟨by rw [HE.out]; rfl, (Below.refl _ _).alloc (Nat.le_refl _) _⟩
      · rw [decide_eq_false hB] at hE
        have tb : nm.isEmpty = false := by rw [emp_eq]; exact decide_eq_false hB
        have tb2 : (nm == []) = false := by simpa using hB
        have HE := Lib.hid hE; clear hE hB
        go_enter Try.func87, Try.ntmps87
        go_wp2
        go_ret
        exact ⟨by rw [HE.out]; rfl, (Below.refl _ _).alloc (Nat.le_refl _) _⟩
    · rw [decide_eq_false hA] at hE
      have ta : ((nk : Int) == 0) = false := by simp; omega
      have ta2 : (nk == 0) = false := by simp; omega
      have HE := Lib.hid hE; clear hE hA
      go_enter Try.func87, Try.ntmps87
      go_wp2
      go_ret
      exact ⟨by rw [HE.out]; rfl, (Below.refl _ _).alloc (Nat.le_refl _) _⟩
end Sp
end Go.Proofs.Ytdophmlnmbcjlaa
