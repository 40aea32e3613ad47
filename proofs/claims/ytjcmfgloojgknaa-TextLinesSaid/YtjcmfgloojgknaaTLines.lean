/- TextLines: the walk. -/
import Derived.Test.YtjcmfgloojgknaaTLaw
import Derived.Deep.RegionHeld3
namespace Go.Proofs.Ytjcmfgloojgknaa
open Go.RowKit
namespace Tx

theorem place_at (s : ByteArray) (at_ : Int) (k l c : Nat) (w : World) (hs : s.size ≤ 281474976710656) (h1 : -9223372036854775808 ≤ at_) (h2 : at_ ≤ 9223372036854775807) (hk : clamp at_ s.size = k) (hp : plc (s.data.toList.take k) = (l, c)) :
    Calls Try.prog 14 #[.string s, .int .i64 at_] w fun e w' => e = .returned (.tuple #[.int .i64 l, .int .i64 c]) ∧ w = w' := by
  refine (Place_any s at_ w hs h1 h2).mono ?_
  rw [hk]
  rintro e w' ⟨rfl, rfl⟩
  exact ⟨by rw [hp], rfl⟩

set_option maxRecDepth 100000 in
set_option maxHeartbeats 4000000 in
theorem lines_any (ad : Option Addr) (len cap : Nat) (zs : List Int) (w : World) (hM : MaxTab w) (hR : IsRow .i64 w ad len cap zs) :
    Calls Try.prog 8 #[.slice ad len cap] w fun e w' => e = .returned (.bool true) ∧ Below w.heap.size w w' := by
  have hI := ints_of_row hR
  generalize (fun i => zs.getD i 0) = f at hI
  have hlen := hI.1
  unfold maxLen at hlen
  have cK := known_any w hM
  have HI := Lib.hid hI; have HK := Lib.hid cK
  clear hI cK hR hM
  go_enter Try.func8, Try.ntmps8
  go_wp2_with (go_at_call 9; (with_reducible refine HK.out.mono ?_); rintro e w1 ⟨rfl, hb⟩)
  have HB : Hid (Below w.heap.size w w1) := hb
  clear hb HK
  go_loopw [3, 4, 5, 6] (fun sv lv cv iv wr => ∃ (j l c : Nat) (t : ByteArray), j ≤ len ∧ j ≤ 60 ∧ l ≤ j + 1 ∧ c ≤ j + 1 ∧ iv = .int .i64 j ∧ lv = .int .i64 l ∧ cv = .int .i64 c ∧ sv = .string t ∧ t.size = j ∧ Hid (plc t.data.toList = (l, c)) ∧ Hid (Below w.heap.size w wr)) (fun _ _ _ iv _ => len - (intOf iv).toNat)
  case atStart => exact ⟨0, 1, 1, _, Nat.zero_le _, by omega, by omega, by omega, rfl, rfl, rfl, rfl, rfl, rfl, HB⟩
  case round =>
    obtain ⟨j, l, c, t, hj, hj60, hl1, hc1, rfl, rfl, rfl, rfl, hts, hp, hm⟩ := hrel
    by_cases hlt : j < len ∧ j < 60
    · obtain ⟨hlt, h60⟩ := hlt
      obtain ⟨bb, off, rfl, hbl, hcc⟩ := HI.out.2 (by omega)
      have hcj := (hm.out.cell (p := ⟨bb, off + j, none⟩) hbl).trans (hcc j hlt).1
      have hwf := bounds_i64 (hcc j hlt).2
      have hjl : (j : Int) < len := by omega
      have hj6 : (j : Int) < 60 := by omega
      have ets : (t ++ ⟨#[116, 97, 105, 108]⟩).size = t.size + 4 := by rw [ByteArray.size_append]; rfl
      have cP := fun w => place_at (t ++ ⟨#[116, 97, 105, 108]⟩) (t.size : Int) t.size l c w (by rw [ets]; omega) (by omega) (by omega) (by unfold clamp; rw [ets]; omega)
        (by rw [cat_bytes, List.take_append_of_le_length (by rw [bytes_len]; exact Nat.le_refl _), List.take_of_length_le (by rw [bytes_len]; exact Nat.le_refl _)]; exact hp.out)
      have CP := Lib.hid cP
      have hts2 : t.size ≤ 60 := by omega
      have hps : plc (t ++ ⟨#[10]⟩).data.toList = (l + 1, 1) := by rw [cat_bytes]; show plc (t.data.toList ++ [10]) = _; rw [plc_snoc, if_pos (by decide), hp.out]
      have hpx : plc (t ++ ⟨#[120]⟩).data.toList = (l, c + 1) := by rw [cat_bytes]; show plc (t.data.toList ++ [120]) = _; rw [plc_snoc, if_neg (by decide), hp.out]
      have HPS := Lib.hid hps; have HPX := Lib.hid hpx
      have HTS := Lib.hid hts
      generalize f j = fj at *
      clear hcc cP ets hps hpx hlt h60 hp
      by_cases h4 : fj.tmod 4 = 0
      · have t4 : (fj.tmod 4 == 0) = true := by simp [h4]
        clear h4
        clear hts
        go_wp2_with (go_at_call 14; (with_reducible refine (CP.out _).mono ?_); rintro e w' ⟨rfl, rfl⟩)
        go_roundw
        case rel => exact ⟨j + 1, l + 1, 1, _, by omega, by omega, by omega, by omega, by go_num, by go_num, rfl, rfl, by rw [ByteArray.size_append, HTS.out]; rfl, HPS, hm⟩
        case measure => simp [intOf]; omega
      · have t4 : (fj.tmod 4 == 0) = false := by simp [h4]
        clear h4
        clear hts
        go_wp2_with (go_at_call 14; (with_reducible refine (CP.out _).mono ?_); rintro e w' ⟨rfl, rfl⟩)
        go_roundw
        case rel => exact ⟨j + 1, l, c + 1, _, by omega, by omega, by omega, by omega, by go_num, rfl, by go_num, rfl, by rw [ByteArray.size_append, HTS.out]; rfl, HPX, hm⟩
        case measure => simp [intOf]; omega
    · have hts2 : t.size ≤ 60 := by omega
      have cP := fun w => place_at t ((t.size : Int) + 7) t.size l c w (by omega) (by omega) (by omega) (by unfold clamp; omega)
        (by rw [List.take_of_length_le (by rw [bytes_len]; exact Nat.le_refl _)]; exact hp.out)
      have cQ := fun w => place_at t (-7) 0 1 1 w (by omega) (by omega) (by omega) (by unfold clamp; omega) rfl
      have CP := Lib.hid cP; have CQ := Lib.hid cQ; have HTS := Lib.hid hts
      clear cP cQ hp HI
      by_cases hl : j < len
      · have hjl : (j : Int) < len := by omega
        have hj6 : ¬ (j : Int) < 60 := by omega
        clear hlt hts
        go_wp2_with (go_at_call 14; first
          | ((with_reducible refine (CP.out _).mono ?_); rintro e w' ⟨rfl, rfl⟩)
          | ((with_reducible refine (CQ.out _).mono ?_); rintro e w' ⟨rfl, rfl⟩))
        go_ret
        exact ⟨rfl, hm.out⟩
      · have hjl : ¬ (j : Int) < len := by omega
        clear hlt hts
        go_wp2_with (go_at_call 14; first
          | ((with_reducible refine (CP.out _).mono ?_); rintro e w' ⟨rfl, rfl⟩)
          | ((with_reducible refine (CQ.out _).mono ?_); rintro e w' ⟨rfl, rfl⟩))
        go_ret
        exact ⟨rfl, hm.out⟩
end Tx
end Go.Proofs.Ytjcmfgloojgknaa
