/- Tables: what they hold. No program is named here. -/
import Derived.Test.YtdophmlnmbcjlaaS2
import Derived.Test.YtdophmlnmbcjlaaRows
import Derived.Test.YtdophmlnmbcjlaaS1
import Derived.WalkKit
import Derived.WalkSpells
import Derived.WalkLawsBesides
import Derived.Lib.Hide
import Derived.BigQuiet
import Derived.Deep.QuietTactic
import Derived.Outline
namespace Go.Proofs.Ytdophmlnmbcjlaa
namespace Sp
open Sc
abbrev NN := List UInt8 × Nat
/-- A function: the numbers of what it takes and answers. -/
abbrev GN := List UInt8 × List Nat × Nat
structure Tab where
  T : List Kz
  N : List NN
  G : List GN
  m : Nat
deriving Inhabited
def addK (has : List UInt8 → Bool) (T : List Kz) (t : Tz) : Nat × Nat × List Kz := if (oneC has 0 t).1 ≠ 0 then (0, (oneC has 0 t).1, T) else treeK T t
def lookN (N : List NN) (nm : List UInt8) : Nat := (lastN N nm).getD 0
end Sp
end Go.Proofs.Ytdophmlnmbcjlaa
namespace Go.Proofs.Ytdophmlnmbcjlaa
open Go.RowKit
namespace Sc
def digB (r : Int) : Bool := decide (48 ≤ r) && decide (r ≤ 57)
def letB (r : Int) : Bool := decide (r = 95) || (decide (97 ≤ r) && decide (r ≤ 122)) || (decide (65 ≤ r) && decide (r ≤ 90))
theorem digit_any (r : Int) (w : World) :
    Calls Try.prog 104 #[.int .i32 r] w fun e w' => e = .returned (.bool (digB r)) ∧ w = w' := by
  by_cases h1 : 48 ≤ r
  · by_cases h2 : r ≤ 57
    · have e1 : digB r = true := by simp [digB, h1, h2]
      rw [e1]; clear e1
      go_enter Try.func104, Try.ntmps104
      go_wp2
      all_goals go_ret
      all_goals exact ⟨rfl, rfl⟩
    · have e1 : digB r = false := by simp [digB, h2]
      rw [e1]; clear e1
      go_enter Try.func104, Try.ntmps104
      go_wp2
      all_goals go_ret
      all_goals exact ⟨rfl, rfl⟩
  · have e1 : digB r = false := by simp [digB, h1]
    rw [e1]; clear e1
    go_enter Try.func104, Try.ntmps104
    go_wp2
    all_goals go_ret
    all_goals exact ⟨rfl, rfl⟩
theorem letter_any (r : Int) (w : World) :
    Calls Try.prog 103 #[.int .i32 r] w fun e w' => e = .returned (.bool (letB r)) ∧ w = w' := by
  obtain ⟨b, hb⟩ : ∃ b, letB r = b := ⟨_, rfl⟩
  rw [hb]
  have hb' : b = (decide (r = 95) || (decide (97 ≤ r) && decide (r ≤ 122)) || (decide (65 ≤ r) && decide (r ≤ 90))) := hb.symm
  clear hb
  by_cases h1 : r = 95
  · obtain rfl : b = true := by rw [hb']; simp [h1]
    clear hb'; subst h1
    go_enter Try.func103, Try.ntmps103
    go_wp2
    all_goals go_ret
    all_goals exact ⟨rfl, rfl⟩
  · have e1 : (r == 95) = false := by simp [h1]
    by_cases h2 : 97 ≤ r <;> by_cases h3 : r ≤ 122 <;> by_cases h4 : 65 ≤ r <;> by_cases h5 : r ≤ 90
    all_goals first
      | (exfalso; omega)
      | (simp only [h1, h2, h3, h4, h5, decide_true, decide_false, Bool.and_self, Bool.or_self, Bool.and_true, Bool.and_false, Bool.or_false, Bool.or_true] at hb'
         subst hb'; clear h1
         go_enter Try.func103, Try.ntmps103
         go_wp2
         all_goals go_ret
         all_goals exact ⟨rfl, rfl⟩)
/-- A letter among the first 128 is one of the bytes' letters; what is decoded of a byte beyond them is none. -/
theorem digB_byte (c : UInt8) : digB (c.toNat : Int) = isD c := by
  unfold digB isD
  congr 1 <;> apply decide_eq_decide.2 <;> omega
theorem letB_byte (c : UInt8) : letB (c.toNat : Int) = isL c := by
  unfold letB isL
  congr 1
  · congr 1
    · apply decide_eq_decide.2; omega
    · congr 1 <;> apply decide_eq_decide.2 <;> omega
  · congr 1 <;> apply decide_eq_decide.2 <;> omega
theorem digB_high (r : Int) (h : 128 ≤ r) : digB r = false := by
  unfold digB; rw [Bool.and_eq_false_iff]; right; simp; omega
theorem letB_high (r : Int) (h : 128 ≤ r) : letB r = false := by
  unfold letB; simp; omega
theorem isD_high (c : UInt8) (h : 128 ≤ c.toNat) : isD c = false := by
  unfold isD; simp; omega
theorem isL_high (c : UInt8) (h : 128 ≤ c.toNat) : isL c = false := by
  unfold isL; simp; omega
/-- THE ROUND's BYTE, read as a rune: the pair (a digit, a letter) is the byte's. -/
theorem rune_of (s : ByteArray) (pos : Nat) (h : pos < s.size) : digB (Utf8.decode s pos).1 = isD (s[pos]'h) ∧ letB (Utf8.decode s pos).1 = isL (s[pos]'h) ∧ (isD (s[pos]'h) = true ∨ isL (s[pos]'h) = true → (Utf8.decode s pos).2 = 1) := by
  by_cases ha : (s[pos]'h).toNat < 128
  · rw [decode_ascii s pos h ha]
    exact ⟨digB_byte _, letB_byte _, fun _ => rfl⟩
  · obtain ⟨h1, _⟩ := decode_high s pos h (by omega)
    rw [isD_high _ (by omega), isL_high _ (by omega)]
    exact ⟨digB_high _ (by omega), letB_high _ (by omega), by simp⟩
theorem lt_len {s : ByteArray} {k : Nat} (h : k < s.size) : k < s.data.toList.length := by simp only [Array.length_toList]; exact h
theorem bytes_at (s : ByteArray) (k : Nat) (h : k < s.size) : s.data.toList[k]'(lt_len h) = s[k]'h := by simp only [Array.getElem_toList]; rfl
theorem bytes_len (s : ByteArray) : s.data.toList.length = s.size := by simp only [Array.length_toList]; rfl
theorem toList_isEmpty (s : ByteArray) : s.toList.isEmpty = decide (s.size = 0) := by
  have h : s.toList = s.data.toList := ByteArray.toList_eq s
  rw [h]
  rcases hl : s.data.toList with _ | ⟨c, t⟩
  · have : s.size = 0 := by rw [← bytes_len, hl]; rfl
    simp [this]
  · have : s.size ≠ 0 := by rw [← bytes_len, hl]; simp
    simp [this]
set_option maxHeartbeats 800000 in
theorem nameSize_any (s : ByteArray) (w : World) (hs : s.size ≤ maxLen) :
    Calls Try.prog 98 #[.string s] w fun e w' => e = .returned (.int .i64 (nsz s.data.toList)) ∧ Below w.heap.size w w' := by
  have hs' := hs
  unfold maxLen at hs'
  go_enter Try.func98, Try.ntmps98
  go_wp2
  go_loopw [] (fun w' => ∃ k : Nat, k ≤ s.size ∧ w' = w.iter s k ∧ Hid (nsz s.data.toList = k + nszF (decide (k = 0)) (s.data.toList.drop k))) (fun w' => s.size - w'.iterPos w.heap.size)
  case atStart => exact ⟨0, Nat.zero_le _, rfl, by simp [Hid, nsz]⟩
  case round =>
    obtain ⟨k, hk, rfl, hd⟩ := hrel
    by_cases hlt : k < s.size
    · have hnx := fun ty => run_next_any (P := Try.prog) w s k ty hlt
      obtain ⟨h1, h2, h3⟩ := rune_of s k hlt
      have hle := decode_le s k
      generalize hr : (Utf8.decode s k).1 = r at *
      generalize hw : (Utf8.decode s k).2 = wd at *
      clear hr hw
      have cR := digit_any (r : Int)
      have cL := letter_any (r : Int)
      rw [h1] at cR; rw [h2] at cL
      clear h1 h2
      have hb := bytes_at s k hlt
      cases hL : isL (s[k]'hlt)
      · rw [hL] at cL
        have CL := Lib.hid cL; clear cL
        by_cases hk0 : k = 0
        · have HS := Lib.hid (nszF_stop s.data.toList k (decide (k = 0)) (lt_len hlt) (by rw [hb, hL]; simp [hk0]))
          have CR := Lib.hid cR; clear cR hb h3 hL
          subst hk0
          go_wp2_with (first | (go_at_call 103; refine (CL.out _).mono ?_; rintro e w' ⟨rfl, rfl⟩) | (go_at_call 104; refine (CR.out _).mono ?_; rintro e w' ⟨rfl, rfl⟩))
          go_ret
          refine ⟨?_, ?_⟩
          · have := hd.out; rw [HS.out] at this; rw [this]; rfl
          · exact (Below.refl _ _).alloc (Nat.le_refl _) _
        · have hkz : ((k : Int) == 0) = false := by simp; omega
          cases hD : isD (s[k]'hlt)
          · rw [hD] at cR
            have HS := Lib.hid (nszF_stop s.data.toList k (decide (k = 0)) (lt_len hlt) (by rw [hb, hL, hD]; simp))
            have CR := Lib.hid cR; clear cR hb h3 hL hD
            go_wp2_with (first | (go_at_call 103; refine (CL.out _).mono ?_; rintro e w' ⟨rfl, rfl⟩) | (go_at_call 104; refine (CR.out _).mono ?_; rintro e w' ⟨rfl, rfl⟩))
            go_ret
            refine ⟨?_, ?_⟩
            · have := hd.out; rw [HS.out] at this; rw [this]; rfl
            · exact (Below.refl _ _).alloc (Nat.le_refl _) _
          · rw [hD] at cR
            have HS := Lib.hid (nszF_step s.data.toList k (decide (k = 0)) (lt_len hlt) (by rw [hb, hL, hD]; simp [hk0]))
            obtain rfl : wd = 1 := h3 (Or.inl hD)
            have CR := Lib.hid cR; clear cR hb h3 hL hD
            go_wp2_with (first | (go_at_call 103; refine (CL.out _).mono ?_; rintro e w' ⟨rfl, rfl⟩) | (go_at_call 104; refine (CR.out _).mono ?_; rintro e w' ⟨rfl, rfl⟩))
            go_roundw
            case rel => exact ⟨k + 1, by omega, rfl, by have := hd.out; rw [HS.out] at this; unfold Hid; rw [show decide (k + 1 = 0) = false from by simp]; omega⟩
            case measure => simp; omega
      · rw [hL] at cL
        have HS := Lib.hid (nszF_step s.data.toList k (decide (k = 0)) (lt_len hlt) (by rw [hb, hL]; simp))
        obtain rfl : wd = 1 := h3 (Or.inr hL)
        have CL := Lib.hid cL; clear cL
        have CR := Lib.hid cR; clear cR hb h3 hL
        go_wp2_with (first | (go_at_call 103; refine (CL.out _).mono ?_; rintro e w' ⟨rfl, rfl⟩) | (go_at_call 104; refine (CR.out _).mono ?_; rintro e w' ⟨rfl, rfl⟩))
        go_roundw
        case rel => exact ⟨k + 1, by omega, rfl, by have := hd.out; rw [HS.out] at this; unfold Hid; rw [show decide (k + 1 = 0) = false from by simp]; omega⟩
        case measure => simp; omega
    · have hk' : k = s.size := by omega
      subst hk'
      have hnx := fun ty => run_next_end (P := Try.prog) w s s.size ty hlt
      go_wp2
      go_ret
      refine ⟨?_, ?_⟩
      · have := hd.out; rw [← bytes_len, nszF_end] at this; rw [this, bytes_len]; rfl
      · exact (Below.refl _ _).alloc (Nat.le_refl _) _
end Sc
end Go.Proofs.Ytdophmlnmbcjlaa
namespace Go.Proofs.Ytdophmlnmbcjlaa
open Go.RowKit
namespace Sp
open Sc
set_option maxHeartbeats 400000 in
theorem Ident_any (s : ByteArray) (w : World) (hs : s.size ≤ maxLen) :
    Calls Try.prog 86 #[.string s] w fun e w' => e = .returned (.bool (identB s.data.toList)) ∧ Below w.heap.size w w' := by
  have he := toList_isEmpty s
  have C := nameSize_any s
  have hle := nsz_le s.data.toList
  unfold identB
  rw [bytes_len] at hle ⊢
  have hs' := hs
  unfold maxLen at hs'
  by_cases h0 : s.size = 0
  · rw [decide_eq_true h0] at he
    rw [show decide (s.size ≠ 0) = false from decide_eq_false (by omega)]
    clear h0 C
    go_enter Try.func86, Try.ntmps86
    go_wp2_with fail
    go_ret
    exact ⟨rfl, Below.refl _ _⟩
  · rw [decide_eq_false h0] at he
    rw [show decide (s.size ≠ 0) = true from decide_eq_true h0]
    by_cases h16 : s.size ≤ 16
    · rw [decide_eq_true h16]
      generalize nsz s.data.toList = k at *
      have HC := Lib.hid C; clear C h0
      by_cases hk : k = s.size
      · rw [decide_eq_true hk]
        subst hk
        go_enter Try.func86, Try.ntmps86
        go_wp2_with (go_at_call 98; (with_reducible refine (HC.out _ hs).mono ?_); rintro e w1 ⟨rfl, hb⟩)
        go_ret
        exact ⟨rfl, by assumption⟩
      · rw [decide_eq_false hk]
        have tk : ((k : Int) == (s.size : Int)) = false := by simp; omega
        have tk' : (k == s.size) = false := by simp; omega
        clear hk
        go_enter Try.func86, Try.ntmps86
        go_wp2_with (go_at_call 98; (with_reducible refine (HC.out _ hs).mono ?_); rintro e w1 ⟨rfl, hb⟩)
        go_ret
        exact ⟨rfl, by assumption⟩
    · rw [decide_eq_false h16]
      have h16' : 16 < (s.size : Int) := by omega
      clear C
      go_enter Try.func86, Try.ntmps86
      go_wp2_with fail
      go_ret
      exact ⟨rfl, Below.refl _ _⟩
end Sp
end Go.Proofs.Ytdophmlnmbcjlaa
