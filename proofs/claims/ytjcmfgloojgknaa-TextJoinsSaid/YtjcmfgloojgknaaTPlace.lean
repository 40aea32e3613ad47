/- Both Place: what each call returns; the world stays. -/
import Derived.Test.YtjcmfgloojgknaaTPart
import Derived.Lib.MinMax
namespace Go.Proofs.Ytjcmfgloojgknaa
open Go.RowKit
namespace Tx

/-- A place within a text of n bytes. -/
def clamp (at_ : Int) (n : Nat) : Nat := (min (max at_ 0) (n : Int)).toNat
theorem clamp_le (at_ : Int) (n : Nat) : clamp at_ n ≤ n := by unfold clamp; omega
def PlacePost (w : World) (l : List UInt8) (e : Ending) (w' : World) : Prop :=
  e = .returned (.tuple #[.int .i64 ((plc l).1 : Int), .int .i64 ((plc l).2 : Int)]) ∧ w = w'

theorem Count_any (s : ByteArray) (w : World) :
    Calls Try.prog 18 #[.string s, .string ⟨#[10]⟩] w fun e w' => e = .returned (.int .i64 (s.data.toList.count 10 : Nat)) ∧ w = w' := by
  refine (Try.strings_Count_one s 10 w).mono ?_
  rintro e w' ⟨rfl, rfl⟩
  exact ⟨rfl, rfl⟩
theorem Last_any (s : ByteArray) (hs : s.size ≤ 281474976710656) (w : World) :
    Calls Try.prog 19 #[.string s, .string ⟨#[10]⟩] w fun e w' => e = .returned (.int .i64 (Lib.lastIndexByte s 10)) ∧ w = w' := by
  refine (Try.strings_LastIndex_one s ⟨#[10]⟩ rfl (by omega) w).mono ?_
  rintro e w' ⟨rfl, rfl⟩
  exact ⟨rfl, rfl⟩

set_option maxHeartbeats 800000 in
theorem Place_any (s : ByteArray) (at_ : Int) (w : World) (hs : s.size ≤ 281474976710656) (h1 : -9223372036854775808 ≤ at_) (h2 : at_ ≤ 9223372036854775807) :
    Calls Try.prog 14 #[.string s, .int .i64 at_] w (PlacePost w (s.data.toList.take (clamp at_ s.size))) := by
  obtain ⟨k, hk⟩ : ∃ k : Nat, clamp at_ s.size = k := ⟨_, rfl⟩
  have hk1 : k ≤ s.size := by rw [← hk]; exact clamp_le _ _
  have hk2 : min (max at_ 0) (s.size : Int) = (k : Int) := by unfold clamp at hk; omega
  rw [hk]
  have hx : (s.extract 0 k).data.toList = s.data.toList.take k := by rw [extract_take]
  have hxs : (s.extract 0 k).size = k := by rw [ByteArray.size_extract]; omega
  have hc : (s.extract 0 k).data.toList.count 10 ≤ k := by have := List.count_le_length (a := (10 : UInt8)) (l := (s.extract 0 k).data.toList); rw [bytes_len, hxs] at this; exact this
  have p1 := plc_count (s.extract 0 k).data.toList
  have p2 := plc_last_all (s.extract 0 k)
  have p3 := plc_le (s.extract 0 k).data.toList
  rw [bytes_len, hxs] at p3
  rw [hxs] at p2
  have cC := Count_any (s.extract 0 k)
  have cL := Last_any (s.extract 0 k) (by rw [hxs]; omega)
  rw [hx] at p1 p2 p3 cC hc
  generalize (s.data.toList.take k).count 10 = n at *
  generalize Lib.lastIndexByte (s.extract 0 k) 10 = m at *
  generalize hpl : plc (s.data.toList.take k) = pl at *
  have hm1 : -1 ≤ m := by omega
  have hm2 : m ≤ k := by omega
  have PP : PlacePost w (s.data.toList.take k) = fun e w' => e = .returned (.tuple #[.int .i64 (pl.1 : Int), .int .i64 (pl.2 : Int)]) ∧ w = w' := by unfold PlacePost; rw [hpl]
  rw [PP]
  have e1 : (pl.1 : Int) = n + 1 := by omega
  have e2 : (pl.2 : Int) = k - m := by omega
  have HC := Lib.hid cC; have HL := Lib.hid cL; have HK := Lib.hid hk2; have H1 := Lib.hid e1; have H2 := Lib.hid e2; have HXS := Lib.hid hxs
  have hxl : (s.extract 0 k).size ≤ 9223372036854775807 := by omega
  clear cC cL p1 p2 p3 hx PP hpl hk hxs
  go_enter Try.func14, Try.ntmps14
  go_wp2_with (first
    | (go_at_call 18; (with_reducible refine (HC.out _).mono ?_); rintro e w' ⟨rfl, rfl⟩)
    | (go_at_call 19; (with_reducible refine (HL.out _).mono ?_); rintro e w' ⟨rfl, rfl⟩))
  go_ret2
  refine ⟨?_, rfl⟩
  rw [H1.out, H2.out]; rfl

/-- The loop of sprueref2's Place. -/
theorem plc_step (s : ByteArray) (k : Nat) (h : k < s.size) : plc (s.data.toList.take (k + 1)) = if (s[k]'h).toNat = 10 then ((plc (s.data.toList.take k)).1 + 1, 1) else ((plc (s.data.toList.take k)).1, (plc (s.data.toList.take k)).2 + 1) := by
  rw [take_snoc s k h, plc_snoc]

set_option maxHeartbeats 800000 in
theorem RPlace_any (s : ByteArray) (at_ : Int) (w : World) (hs : s.size ≤ 281474976710656) (h1 : -9223372036854775808 ≤ at_) (h2 : at_ ≤ 9223372036854775807) :
    Calls Try.prog 15 #[.string s, .int .i64 at_] w (PlacePost w (s.data.toList.take (clamp at_ s.size))) := by
  obtain ⟨k, hk⟩ : ∃ k : Nat, clamp at_ s.size = k := ⟨_, rfl⟩
  have hk1 : k ≤ s.size := by rw [← hk]; exact clamp_le _ _
  have hk2 : min (max at_ 0) (s.size : Int) = (k : Int) := by unfold clamp at hk; omega
  rw [hk]
  clear hk
  have HPP : Hid (PlacePost w (s.data.toList.take k) = fun e w' => e = .returned (.tuple #[.int .i64 ((plc (s.data.toList.take k)).1 : Int), .int .i64 ((plc (s.data.toList.take k)).2 : Int)]) ∧ w = w') := rfl
  go_enter Try.func15, Try.ntmps15
  go_wp2
  go_loop [6, 7, 8] (fun lv cv iv => ∃ (i l c : Nat), i ≤ k ∧ iv = .int .i64 i ∧ lv = .int .i64 l ∧ cv = .int .i64 c ∧ l ≤ i + 1 ∧ c ≤ i + 1 ∧ Hid (plc (s.data.toList.take i) = (l, c))) (fun _ _ iv => k - (intOf iv).toNat)
  case atStart => exact ⟨0, 1, 1, by omega, rfl, rfl, rfl, by omega, by omega, rfl⟩
  case round =>
    obtain ⟨i, l, c, hi, rfl, rfl, rfl, hl, hc, hp⟩ := hrel
    have HP := hp; clear hp
    by_cases hlt : i < k
    · have his : i < s.size := by omega
      have hx := plc_step s i his
      rw [HP.out] at hx
      by_cases h10 : (s[i]'his).toNat = 10
      · have t10 : (((s[i]'his).toNat : Int) == 10) = true := by simp [h10]
        rw [if_pos h10] at hx
        have HX := Lib.hid hx
        clear hx h10
        go_wp2
        go_round
        case rel => exact ⟨i + 1, l + 1, 1, by omega, by go_num, by go_num, rfl, by omega, by omega, HX⟩
        case measure => simp [intOf]; omega
      · have t10 : (((s[i]'his).toNat : Int) == 10) = false := by simp; omega
        rw [if_neg h10] at hx
        have HX := Lib.hid hx
        clear hx h10
        go_wp2
        go_round
        case rel => exact ⟨i + 1, l, c + 1, by omega, by go_num, rfl, by go_num, by omega, by omega, HX⟩
        case measure => simp [intOf]; omega
    · obtain rfl : i = k := by omega
      go_wp2
      go_ret2
      rw [HPP.out, HP.out]
      exact ⟨rfl, rfl⟩

set_option maxHeartbeats 1600000 in
/-- end of sprueref2. -/
theorem end_any (s : ByteArray) (i : Nat) (w : World) (hs : s.size ≤ 4000) (hi : i ≤ s.size) :
    Calls Try.prog 17 #[.string s, .int .i64 i] w fun e w' => e = .returned (.int .i64 (endV i (insF false false (s.data.toList.drop i)))) ∧ w = w' := by
  go_enter Try.func17, Try.ntmps17
  go_wp2
  go_loop [1, 5, 6] (fun iv qv bv => ∃ (k b : Nat) (q e : Bool), i ≤ k ∧ k ≤ s.size ∧ b ≤ k ∧ iv = .int .i64 k ∧ qv = .bool q ∧ bv = .int .i64 b ∧ Hid (decide (b % 2 = 1) = e) ∧ Hid (q = false → e = false) ∧ Hid (endV i (insF false false (s.data.toList.drop i)) = endV k (insF q e (s.data.toList.drop k)))) (fun iv _ _ => s.size - (intOf iv).toNat)
  case atStart => exact ⟨i, 0, false, false, Nat.le_refl _, hi, Nat.zero_le _, rfl, rfl, rfl, rfl, fun _ => rfl, rfl⟩
  case round =>
    obtain ⟨k, b, q, e, hik, hk, hbk, rfl, rfl, rfl, he, hqe, hd⟩ := hrel
    by_cases hlt : k < s.size
    · have hx := hd.out
      have hb := drop_byte s k hlt
      obtain ⟨c, hc⟩ : ∃ c, s[k]'hlt = c := ⟨_, rfl⟩
      rw [hc] at hb
      rw [hb] at hx
      have hc255 : (c.toNat : Int) ≤ 255 := by have := UInt8.toNat_lt c; omega
      cases q with
      | false =>
        obtain rfl := hqe.out rfl
        cases h2 : two 125 (c :: s.data.toList.drop (k + 1)) with
        | true =>
          rw [ins_end _ _ h2, endV_zero] at hx
          have hl := two_len _ _ h2
          rw [List.length_cons, List.length_drop, bytes_len] at hl
          have h3 : k + 1 < s.size := by omega
          rw [drop_byte s (k + 1) h3] at h2
          simp only [two, Bool.and_eq_true, decide_eq_true_eq] at h2
          have t1 : ((c.toNat : Int) == 125) = true := by simp [h2.1]
          have t2 : (((s[k + 1]'h3).toNat : Int) == 125) = true := by simp [h2.2]
          have HX := Lib.hid hx; have HB := Lib.hid hb
          clear hx hb h2 hl hd he hqe
          go_wp2
          go_ret
          exact ⟨ret_int HX.out.symm, rfl⟩
        | false =>
          have hge : Hid (c.toNat = 125 → ∀ h3 : k + 1 < s.size, (s[k + 1]'h3).toNat ≠ 125) := by
            intro e1 h3 e2
            rw [drop_byte s (k + 1) h3] at h2
            simp [two, e1, e2] at h2
          by_cases h34 : c.toNat = 34
          · have t34 : ((c.toNat : Int) == 34) = true := by simp [h34]
            have t125 : ((c.toNat : Int) == 125) = false := by simp; omega
            rw [ins_quot _ _ _ h34, endV_up] at hx
            have HX := Lib.hid hx; have HB := Lib.hid hb
            clear hx hb h2 hd he hqe h34 hge
            go_wp2
            go_round
            case rel => exact ⟨k + 1, 0, true, false, by omega, by omega, by omega, by go_num, rfl, rfl, rfl, (fun h => by cases h), HX⟩
            case measure => simp [intOf]; omega
          · have t34 : ((c.toNat : Int) == 34) = false := by simp; omega
            rw [ins_out _ _ h34 h2, endV_up] at hx
            have HX := Lib.hid hx; have HB := Lib.hid hb
            clear hx hb h2 hd he hqe
            by_cases h125 : c.toNat = 125
            · have t125 : ((c.toNat : Int) == 125) = true := by simp [h125]
              by_cases h3 : k + 1 < s.size
              · have t2 : (((s[k + 1]'h3).toNat : Int) == 125) = false := by have := hge.out h125 h3; simp; omega
                clear h34 h125 hge
                go_wp2
                go_round
                case rel => exact ⟨k + 1, 0, false, false, by omega, by omega, by omega, by go_num, rfl, rfl, rfl, fun _ => rfl, HX⟩
                case measure => simp [intOf]; omega
              · clear h34 h125 hge
                go_wp2
                go_round
                case rel => exact ⟨k + 1, 0, false, false, by omega, by omega, by omega, by go_num, rfl, rfl, rfl, fun _ => rfl, HX⟩
                case measure => simp [intOf]; omega
            · have t125 : ((c.toNat : Int) == 125) = false := by simp; omega
              clear h34 h125 hge
              go_wp2
              go_round
              case rel => exact ⟨k + 1, 0, false, false, by omega, by omega, by omega, by go_num, rfl, rfl, rfl, fun _ => rfl, HX⟩
              case measure => simp [intOf]; omega
      | true =>
        by_cases h92 : c.toNat = 92
        · have t92 : ((c.toNat : Int) == 92) = true := by simp [h92]
          have hx' : endV i (insF false false (s.data.toList.drop i)) = endV (k + 1) (insF true (!e) (s.data.toList.drop (k + 1))) := by
            rw [hx]
            cases e with
            | true => rw [ins_esc, endV_up]; rfl
            | false => rw [ins_in _ _ (by omega), endV_up, decide_eq_true h92]; rfl
          have he' : decide ((b + 1) % 2 = 1) = !e := by
            rw [← he.out]
            by_cases h : b % 2 = 1
            · rw [decide_eq_true h, decide_eq_false (by omega)]; rfl
            · rw [decide_eq_false h, decide_eq_true (by omega)]; rfl
          have HX := Lib.hid hx'; have HB := Lib.hid hb; have HE := Lib.hid he'
          clear hx hx' hb hd he he' hqe h92
          go_wp2
          go_round
          case rel => exact ⟨k + 1, b + 1, true, !e, by omega, by omega, by omega, by go_num, rfl, by go_num, HE, (fun h => by cases h), HX⟩
          case measure => simp [intOf]; omega
        · have t92 : ((c.toNat : Int) == 92) = false := by simp; omega
          by_cases h34 : c.toNat = 34
          · have t34 : ((c.toNat : Int) != 34) = false := by simp [h34]
            cases e with
            | true =>
              rw [ins_esc, endV_up] at hx
              have hb1 : b % 2 = 1 := of_decide_eq_true he.out
              have tb : ((b : Int) % 2 == 1) = true := by simp; omega
              have HX := Lib.hid hx; have HB := Lib.hid hb
              clear hx hb hd he hqe h92 h34 hb1
              go_wp2
              go_round
              case rel => exact ⟨k + 1, 0, true, false, by omega, by omega, by omega, by go_num, rfl, rfl, rfl, (fun h => by cases h), HX⟩
              case measure => simp [intOf]; omega
            | false =>
              rw [ins_quot _ _ _ h34, endV_up] at hx
              have hb1 : ¬ b % 2 = 1 := of_decide_eq_false he.out
              have tb : ((b : Int) % 2 == 1) = false := by simp; omega
              have HX := Lib.hid hx; have HB := Lib.hid hb
              clear hx hb hd he hqe h92 h34 hb1
              go_wp2
              go_round
              case rel => exact ⟨k + 1, 0, false, false, by omega, by omega, by omega, by go_num, rfl, rfl, rfl, fun _ => rfl, HX⟩
              case measure => simp [intOf]; omega
          · have t34 : ((c.toNat : Int) != 34) = true := by simp; omega
            have hx' : endV i (insF false false (s.data.toList.drop i)) = endV (k + 1) (insF true false (s.data.toList.drop (k + 1))) := by
              rw [hx]
              cases e with
              | true => rw [ins_esc, endV_up]
              | false => rw [ins_in _ _ h34, endV_up, decide_eq_false h92]
            have HX := Lib.hid hx'; have HB := Lib.hid hb
            clear hx hx' hb hd he hqe h92 h34
            go_wp2
            go_round
            case rel => exact ⟨k + 1, 0, true, false, by omega, by omega, by omega, by go_num, rfl, rfl, rfl, (fun h => by cases h), HX⟩
            case measure => simp [intOf]; omega
    · obtain rfl : k = s.size := by omega
      have hx : endV i (insF false false (s.data.toList.drop i)) = -1 := by
        rw [hd.out, List.drop_of_length_le (l := s.data.toList) (i := s.size) (by rw [bytes_len]; exact Nat.le_refl _)]; simp [endV, insF]
      have HX := Lib.hid hx
      clear hx hd he hqe
      go_wp2
      go_ret
      exact ⟨ret_int HX.out.symm, rfl⟩
end Tx
end Go.Proofs.Ytjcmfgloojgknaa
