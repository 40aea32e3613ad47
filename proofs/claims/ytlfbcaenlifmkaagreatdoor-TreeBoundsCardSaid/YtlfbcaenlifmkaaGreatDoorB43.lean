/- insideSize of package text, end of package sprueref2: what each call returns; nothing that was there turns. -/
import Derived.Test.YtlfbcaenlifmkaaGreatDoorRows
import Derived.Test.YtlfbcaenlifmkaaGreatDoorB2
import Derived.Test.YtlfbcaenlifmkaaGreatDoorB23
import Derived.WalkKit
import Derived.WalkSpells
import Derived.WalkLawsBesides
import Derived.Lib.Hide
import Derived.Lib.DecodeN
import Derived.Lib.IndexBytes
import Derived.BigQuiet
import Derived.Deep.QuietTactic
import Derived.Outline
namespace Go.Proofs.YtlfbcaenlifmkaaGreatDoor
open Go.RowKit
namespace Tx
theorem drop_ext (s : ByteArray) (k : Nat) : (s.extract k s.size).data.toList = s.data.toList.drop k := by
  rw [← Lib.extract_to_end]
theorem decN_high (n b0 b1 b2 b3 : Nat) (h1 : b1 < 256) (h2 : b2 < 256) (h3 : b3 < 256) (h : 128 ≤ b0) :
    1 ≤ (Lib.decodeN n b0 b1 b2 b3).2 ∧ (2 ≤ (Lib.decodeN n b0 b1 b2 b3).2 → 1 < n ∧ 128 ≤ b1) ∧ (3 ≤ (Lib.decodeN n b0 b1 b2 b3).2 → 2 < n ∧ 128 ≤ b2) ∧ (4 ≤ (Lib.decodeN n b0 b1 b2 b3).2 → 3 < n ∧ 128 ≤ b3) ∧ (Lib.decodeN n b0 b1 b2 b3).2 ≤ 4 := by
  unfold Lib.decodeN
  repeat' split
  all_goals simp only
  all_goals omega
theorem get_list (s : ByteArray) (i : Nat) (h : i < s.data.toList.length) : s.get! i = s.data.toList[i] := by
  have h' : i < s.size := by rw [← bytes_len]; exact h
  rw [bytes_at s i h']
  simp [ByteArray.get!, h']
  rfl
/-- A rune of the text: a byte below 128, or some bytes that are none. -/
theorem rune_cases (s : ByteArray) (k : Nat) (h : k < s.size) :
    ((s[k]'h).toNat < 128 ∧ (Utf8.decode s k).1 = (s[k]'h).toNat ∧ (Utf8.decode s k).2 = 1) ∨
    (128 ≤ (s[k]'h).toNat ∧ 128 ≤ (Utf8.decode s k).1 ∧ 1 ≤ (Utf8.decode s k).2 ∧ k + (Utf8.decode s k).2 ≤ s.size ∧ ∀ i (hi : i < (s.data.toList.drop k).length), i < (Utf8.decode s k).2 → 128 ≤ ((s.data.toList.drop k)[i]).toNat) := by
  by_cases ha : (s[k]'h).toNat < 128
  · rw [decode_ascii s k h ha]; exact Or.inl ⟨ha, rfl, rfl⟩
  · obtain ⟨h1, h2⟩ := decode_high s k h (by omega)
    refine Or.inr ⟨by omega, h1, h2, ?_⟩
    have e0 : (s.get! k).toNat = (s[k]'h).toNat := by rw [get_list s k (lt_len h), bytes_at]
    have hD := decN_high (s.size - k) (s.get! k).toNat (s.get! (k + 1)).toNat (s.get! (k + 2)).toNat (s.get! (k + 3)).toNat (UInt8.toNat_lt _) (UInt8.toNat_lt _) (UInt8.toNat_lt _) (by omega)
    rw [← Lib.decode_at s k] at hD
    generalize (Utf8.decode s k).2 = wd at *
    obtain ⟨d1, d2, d3, d4, d5⟩ := hD
    refine ⟨by omega, fun i hi hw => ?_⟩
    rw [List.length_drop] at hi
    rw [List.getElem_drop, ← get_list s (k + i) (by omega)]
    match i, hw with
    | 0, _ => rw [Nat.add_zero]; omega
    | 1, _ => exact (d2 (by omega)).2
    | 2, _ => exact (d3 (by omega)).2
    | 3, _ => exact (d4 (by omega)).2
    | i + 4, hw => omega
theorem nx_all (s : ByteArray) (k : Nat) (h : k < s.size) :
    1 ≤ (Utf8.decode s k).2 ∧ k + (Utf8.decode s k).2 ≤ s.size ∧
    (∀ q, insF q true (s.data.toList.drop k) = up (Utf8.decode s k).2 (insF q false (s.data.toList.drop (k + (Utf8.decode s k).2)))) ∧
    ((Utf8.decode s k).1 = 34 → ∀ q, insF q false (s.data.toList.drop k) = up (Utf8.decode s k).2 (insF (!q) false (s.data.toList.drop (k + (Utf8.decode s k).2)))) ∧
    ((Utf8.decode s k).1 ≠ 34 → insF true false (s.data.toList.drop k) = up (Utf8.decode s k).2 (insF true (decide ((Utf8.decode s k).1 = 92)) (s.data.toList.drop (k + (Utf8.decode s k).2)))) ∧
    ((Utf8.decode s k).1 ≠ 34 → two 125 (s.data.toList.drop k) = false → insF false false (s.data.toList.drop k) = up (Utf8.decode s k).2 (insF false false (s.data.toList.drop (k + (Utf8.decode s k).2)))) := by
  rcases rune_cases s k h with ⟨ha, h1, h2⟩ | ⟨ha, h1, h2, h3, h4⟩
  · rw [h1, h2, drop_byte s k h]
    exact ⟨Nat.le_refl _, by omega, fun q => ins_esc q _ _, fun e q => ins_quot q _ _ e, fun e => ins_in _ _ e, fun e e2 => ins_out _ _ e e2⟩
  · generalize (Utf8.decode s k).1 = r at *
    generalize (Utf8.decode s k).2 = wd at *
    have hl : wd ≤ (s.data.toList.drop k).length := by rw [List.length_drop, bytes_len]; omega
    have hh := fun q e => ins_highs wd q e (s.data.toList.drop k) h2 hl h4
    rw [List.drop_drop] at hh
    exact ⟨h2, h3, fun q => hh q true, fun e => absurd e (by omega), fun _ => by rw [decide_eq_false (by omega)]; exact hh true false, fun _ _ => hh false false⟩
/-- What insideSize answers. -/
def insV : Option Nat → Value
  | none => .tuple #[.int .i64 0, .bool false]
  | some n => .tuple #[.int .i64 n, .bool true]
theorem HasPrefix_close (s : ByteArray) (w : World) :
    Calls Tryz.prog 143 #[.string s, .string ⟨#[125, 125]⟩] w fun e w' => e = .returned (.bool (two 125 s.data.toList)) ∧ w = w' := by
  refine (Tryz.strings_HasPrefix s ⟨#[125, 125]⟩ w).mono ?_
  rintro e w' ⟨rfl, rfl⟩
  exact ⟨by rw [show (⟨#[125, 125]⟩ : ByteArray).data.toList = [125, 125] from rfl, hasP 125]; rfl, rfl⟩
set_option maxHeartbeats 1000000 in
theorem insideSize_any (s : ByteArray) (w : World) :
    Calls Tryz.prog 102 #[.string s] w fun e w' => e = .returned (insV (insF false false s.data.toList)) ∧ Below w.heap.size w w' := by
  go_enter Tryz.func102, Tryz.ntmps102
  go_wp2
  go_loopw [4, 5] (fun qv ev w' => ∃ (k : Nat) (q e : Bool), k ≤ s.size ∧ qv = .bool q ∧ ev = .bool e ∧ w' = w.iter s k ∧ Hid (insF false false s.data.toList = up k (insF q e (s.data.toList.drop k)))) (fun _ _ w' => s.size - w'.iterPos w.heap.size)
  case atStart => exact ⟨0, false, false, Nat.zero_le _, rfl, rfl, rfl, by rw [up_zero]; rfl⟩
  case round =>
    obtain ⟨k, q, e, hk, rfl, rfl, rfl, hd⟩ := hrel
    by_cases hlt : k < s.size
    · have hnx := fun ty => run_next_any (P := Tryz.prog) w s k ty hlt
      obtain ⟨h1, h2, h3, h4, h5, h6⟩ := nx_all s k hlt
      have hle := decode_le s k
      have hP := HasPrefix_close (s.extract k s.size)
      rw [drop_ext] at hP
      generalize hr : (Utf8.decode s k).1 = r at *
      generalize hw : (Utf8.decode s k).2 = wd at *
      clear hr hw
      have HD := hd; clear hd
      cases e with
      | true =>
        have hx := HD.out
        rw [h3 q, up_up] at hx
        have HX := Lib.hid hx
        clear h3 h4 h5 h6 hP hx HD
        go_wp2
        go_roundw
        case rel => exact ⟨k + wd, q, false, by omega, rfl, rfl, rfl, HX⟩
        case measure => simp; omega
      | false =>
        by_cases r34 : r = 34
        · have hx := HD.out
          rw [h4 r34 q, up_up] at hx
          have HX := Lib.hid hx
          subst r34
          clear h3 h4 h5 h6 hP hx HD
          go_wp2
          go_roundw
          case rel => exact ⟨k + wd, !q, false, by omega, rfl, rfl, rfl, HX⟩
          case measure => simp; omega
        · have t34 : ((r : Int) == 34) = false := by simp; omega
          cases q with
          | true =>
            have hx := HD.out
            rw [h5 r34, up_up] at hx
            by_cases r92 : r = 92
            · rw [decide_eq_true r92] at hx
              have HX := Lib.hid hx
              subst r92
              clear h3 h4 h5 h6 hP hx HD r34
              go_wp2
              go_roundw
              case rel => exact ⟨k + wd, true, true, by omega, rfl, rfl, rfl, HX⟩
              case measure => simp; omega
            · have t92 : ((r : Int) == 92) = false := by simp; omega
              rw [decide_eq_false r92] at hx
              have HX := Lib.hid hx
              clear h3 h4 h5 h6 hP hx HD r34 r92
              go_wp2
              go_roundw
              case rel => exact ⟨k + wd, true, false, by omega, rfl, rfl, rfl, HX⟩
              case measure => simp; omega
          | false =>
            cases h2 : two 125 (s.data.toList.drop k) with
            | true =>
              have hx := HD.out
              rw [drop_byte s k hlt, ins_end _ _ (by rw [← drop_byte s k hlt]; exact h2)] at hx
              have HX := Lib.hid hx
              rw [h2] at hP
              have HP := Lib.hid hP
              clear h3 h4 h5 h6 hP hx HD r34 h2
              go_wp2_with (go_at_call 143; (with_reducible refine (HP.out _).mono ?_); rintro e w' ⟨rfl, rfl⟩)
              go_ret2
              refine ⟨?_, (Below.refl _ _).alloc (Nat.le_refl _) _⟩
              rw [HX.out]; simp [up, insV]
            | false =>
              have hx := HD.out
              rw [h6 r34 h2, up_up] at hx
              have HX := Lib.hid hx
              rw [h2] at hP
              have HP := Lib.hid hP
              clear h3 h4 h5 h6 hP hx HD r34 h2
              go_wp2_with (go_at_call 143; (with_reducible refine (HP.out _).mono ?_); rintro e w' ⟨rfl, rfl⟩)
              go_roundw
              case rel => exact ⟨k + wd, false, false, by omega, rfl, rfl, rfl, HX⟩
              case measure => simp; omega
    · have hk' : k = s.size := by omega
      subst hk'
      have hnx := fun ty => run_next_end (P := Tryz.prog) w s s.size ty hlt
      have hx := hd.out
      rw [List.drop_of_length_le (by rw [bytes_len]; exact Nat.le_refl _)] at hx
      have HX := Lib.hid hx
      clear hx hd
      go_wp2
      go_ret2
      refine ⟨?_, (Below.refl _ _).alloc (Nat.le_refl _) _⟩
      rw [HX.out]; simp [up, insV, insF]
end Tx
end Go.Proofs.YtlfbcaenlifmkaaGreatDoor
