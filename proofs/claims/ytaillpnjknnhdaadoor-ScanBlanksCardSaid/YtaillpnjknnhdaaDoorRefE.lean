/- next of package sprueref1, at names and numbers: what each call returns; nothing that was there turns. Written by gen_refe.py. -/
import Derived.Test.YtaillpnjknnhdaaDoorRefD
namespace Go.Proofs.YtaillpnjknnhdaaDoor
open Go.RowKit
namespace Sc

/-- What next answers of a word: the word, its place, the place behind it; or an error. -/
def NextPost (w : World) (i : Nat) (r : W) (e : Ending) (w' : World) : Prop :=
  Below w.heap.size w w' ∧ ∃ (a c d k : Int) (b : ByteArray), e = .returned (.tuple #[.agg #[.int .i64 a, .string b, .int .i64 c, .int .i64 d], .int .i64 k, .int .i64 r.e]) ∧
    (r.e = 0 → a = r.kind ∧ b = ⟨r.text.toArray⟩ ∧ c = r.n ∧ d = i ∧ k = i + r.size)

theorem ext_list (s : ByteArray) (i k : Nat) : (s.extract i k).data.toList = (s.data.toList.drop i).take (k - i) := by
  simp [ByteArray.data_extract, List.extract_eq_take_drop]
theorem wordW_let (c : UInt8) (t : List UInt8) (h : isL c = true) : wordW (c :: t) = nameW (c :: t) := by
  obtain ⟨h1, h2, h3, _⟩ := letter_not c h
  rw [show wordW (c :: t) = (if c.toNat = 34 then quotW (c :: t) else if c.toNat = 45 then (if dsz t = 0 then signW (c :: t) else numW (c :: t))
    else if isD c then numW (c :: t) else if isL c then nameW (c :: t) else signW (c :: t)) from rfl, if_neg h1, if_neg h2, h3, if_neg (by simp), if_pos h]
theorem wordW_dig (c : UInt8) (t : List UInt8) (h : isD c = true) : wordW (c :: t) = numW (c :: t) := by
  obtain ⟨h1, h2, _, _⟩ := digit_not c h
  rw [show wordW (c :: t) = (if c.toNat = 34 then quotW (c :: t) else if c.toNat = 45 then (if dsz t = 0 then signW (c :: t) else numW (c :: t))
    else if isD c then numW (c :: t) else if isL c then nameW (c :: t) else signW (c :: t)) from rfl, if_neg h1, if_neg h2, if_pos h]
theorem nszF_after (l : List UInt8) : nszF (decide (l.length = l.length)) ([] : List UInt8) = 0 := rfl
theorem let_not_dig (c : UInt8) (h : isL c = true) : isD c = false := (letter_not c h).2.2.1

set_option maxRecDepth 100000 in
set_option maxHeartbeats 4000000 in
theorem next_name (s : ByteArray) (i : Nat) (w : World) (hs : s.size ≤ 2000) (hi : i < s.size) (hL0 : isL (s[i]'hi) = true) :
    Calls Tryd.prog 23 #[.string s, .int .i64 i] w (NextPost w i (wordW (s.data.toList.drop i))) := by
  have hi' : (i : Int) < s.size := by omega
  have hdr := drop_at s.data.toList i (lt_len hi)
  rw [bytes_at s i hi] at hdr
  have hnw : wordW (s.data.toList.drop i) = nameW (s.data.toList.drop i) := by rw [hdr]; exact wordW_let _ _ hL0
  have cL := fun w => rletter_any ((s[i]'hi).toNat : Int) w
  rw [letB_byte, hL0] at cL
  obtain ⟨c0, hc0⟩ : ∃ c, s[i]'hi = c := ⟨_, rfl⟩
  rw [hc0] at cL hL0
  have HNW := Lib.hid hnw; have CL := Lib.hid cL; have HL0 := Lib.hid hL0
  clear hdr hnw cL hL0
  go_enter Tryd.func23, Tryd.ntmps23
  go_wp2_with (first | (go_at_call 25; (with_reducible refine (CL.out _).mono ?_); rintro e w' ⟨rfl, rfl⟩))
  go_loop [7] (fun kv => ∃ k : Nat, i ≤ k ∧ k ≤ s.size ∧ kv = .int .i64 k ∧ Hid (nsz (s.data.toList.drop i) = k - i + nszF (decide (k = i)) (s.data.toList.drop k))) (fun kv => s.size - (intOf kv).toNat)
  case atStart => exact ⟨i, Nat.le_refl _, by omega, rfl, by simp [Hid, nsz]⟩
  case round =>
    obtain ⟨k, hik, hk, rfl, hd⟩ := hrel
    by_cases hlt : k < s.size
    · have hb := bytes_at s k hlt
      obtain ⟨c, hc⟩ : ∃ c, s[k]'hlt = c := ⟨_, rfl⟩
      have hlt' : (k : Int) < s.size := by omega
      have dL := fun w => rletter_any (c.toNat : Int) w
      have dD := fun w => rdigit_any (c.toNat : Int) w
      rw [letB_byte] at dL; rw [digB_byte] at dD
      have hki0 : isL c = false → k ≠ i := by
        intro h e; subst e
        rw [hc0] at hc; subst hc; rw [HL0.out] at h; cases h
      cases hL2 : isL c
      · rw [hL2] at dL
        have hne := hki0 hL2
        cases hD2 : isD c
        · rw [hD2] at dD
          have hz := nszF_stop s.data.toList k (decide (k = i)) (lt_len hlt) (by rw [hb, hc, hL2, hD2]; simp)
          have DL := Lib.hid dL; have DD := Lib.hid dD; have HZ := Lib.hid hz
          clear dL dD hz hb hL2 hD2 hki0 hne
          have hnm : nsz (s.data.toList.drop i) = k - i := by have := hd.out; rw [HZ.out] at this; omega
          have hki : (k : Int) - i = ((k - i : Nat) : Int) := by omega
          have hxl : (s.extract i k).data.toList = (s.data.toList.drop i).take (k - i) := ext_list s i k
          by_cases h16 : 16 < k - i
          · have hww : wordW (s.data.toList.drop i) = bad 4 := by rw [HNW.out]; unfold nameW; rw [hnm, if_pos h16]
            have HW := Lib.hid hww
            have h16' : (16 : Int) < (k : Int) - i := by omega
            clear hww hnm hki hxl h16
            go_wp2_with (first | (go_at_call 25; (with_reducible refine (DL.out _).mono ?_); rintro e w' ⟨rfl, rfl⟩) | (go_at_call 26; (with_reducible refine (DD.out _).mono ?_); rintro e w' ⟨rfl, rfl⟩))
            refine bodyPost_ret (v := .tuple #[.agg #[.int .i64 0, .string ⟨#[]⟩, .int .i64 0, .int .i64 0], .int .i64 0, .int .i64 4]) (by simp [results, Tryd.results23, go_sem]) rfl ⟨(Below.refl _ _).alloc (Nat.le_refl _) _, 0, 0, 0, 0, ⟨#[]⟩, by rw [HW.out]; rfl, fun h => by rw [HW.out] at h; cases h⟩
          · have hww : wordW (s.data.toList.drop i) = ⟨1, (s.data.toList.drop i).take (k - i), 0, k - i, 0⟩ := by rw [HNW.out]; unfold nameW; rw [hnm, if_neg h16]
            have HW := Lib.hid hww; have HX := Lib.hid hxl
            have h16' : ¬ (16 : Int) < (k : Int) - i := by omega
            clear hww hnm hki hxl h16
            go_wp2_with (first | (go_at_call 25; (with_reducible refine (DL.out _).mono ?_); rintro e w' ⟨rfl, rfl⟩) | (go_at_call 26; (with_reducible refine (DD.out _).mono ?_); rintro e w' ⟨rfl, rfl⟩))
            refine bodyPost_ret (v := .tuple #[.agg #[.int .i64 1, .string (s.extract i k), .int .i64 0, .int .i64 i], .int .i64 k, .int .i64 0]) (by simp [results, Tryd.results23, go_sem]) rfl ⟨(Below.refl _ _).alloc (Nat.le_refl _) _, 1, 0, i, k, s.extract i k, by rw [HW.out]; rfl, fun _ => by rw [HW.out]; exact ⟨rfl, (eta_b _ _ HX.out).symm, rfl, rfl, by simp only; omega⟩⟩
        · rw [hD2] at dD
          have hz := nszF_step s.data.toList k (decide (k = i)) (lt_len hlt) (by rw [hb, hc, hL2, hD2]; simp [hne])
          have DL := Lib.hid dL; have DD := Lib.hid dD; have HZ := Lib.hid hz
          clear dL dD hz hb hL2 hD2 hki0 hne
          go_wp2_with (first | (go_at_call 25; (with_reducible refine (DL.out _).mono ?_); rintro e w' ⟨rfl, rfl⟩) | (go_at_call 26; (with_reducible refine (DD.out _).mono ?_); rintro e w' ⟨rfl, rfl⟩))
          go_round
          case rel => exact ⟨k + 1, by omega, by omega, by go_num, by have := hd.out; rw [HZ.out] at this; unfold Hid; rw [show decide (k + 1 = i) = false from decide_eq_false (by omega)]; omega⟩
          case measure => simp [intOf]; omega
      · rw [hL2] at dL
        have hz := nszF_step s.data.toList k (decide (k = i)) (lt_len hlt) (by rw [hb, hc, hL2]; simp)
        have DL := Lib.hid dL; have HZ := Lib.hid hz
        clear dL dD hz hb hL2 hki0
        go_wp2_with (first | (go_at_call 25; (with_reducible refine (DL.out _).mono ?_); rintro e w' ⟨rfl, rfl⟩))
        go_round
        case rel => exact ⟨k + 1, by omega, by omega, by go_num, by have := hd.out; rw [HZ.out] at this; unfold Hid; rw [show decide (k + 1 = i) = false from decide_eq_false (by omega)]; omega⟩
        case measure => simp [intOf]; omega
    · have hks : k = s.size := by omega
      have hz : nszF (decide (k = i)) (s.data.toList.drop k) = 0 := by rw [hks, ← bytes_len, nszF_end]
      have HZ := Lib.hid hz
      have hlt' : ¬ (k : Int) < s.size := by omega
      clear hz hks
      have hnm : nsz (s.data.toList.drop i) = k - i := by have := hd.out; rw [HZ.out] at this; omega
      have hki : (k : Int) - i = ((k - i : Nat) : Int) := by omega
      have hxl : (s.extract i k).data.toList = (s.data.toList.drop i).take (k - i) := ext_list s i k
      by_cases h16 : 16 < k - i
      · have hww : wordW (s.data.toList.drop i) = bad 4 := by rw [HNW.out]; unfold nameW; rw [hnm, if_pos h16]
        have HW := Lib.hid hww
        have h16' : (16 : Int) < (k : Int) - i := by omega
        clear hww hnm hki hxl h16
        go_wp2
        refine bodyPost_ret (v := .tuple #[.agg #[.int .i64 0, .string ⟨#[]⟩, .int .i64 0, .int .i64 0], .int .i64 0, .int .i64 4]) (by simp [results, Tryd.results23, go_sem]) rfl ⟨(Below.refl _ _).alloc (Nat.le_refl _) _, 0, 0, 0, 0, ⟨#[]⟩, by rw [HW.out]; rfl, fun h => by rw [HW.out] at h; cases h⟩
      · have hww : wordW (s.data.toList.drop i) = ⟨1, (s.data.toList.drop i).take (k - i), 0, k - i, 0⟩ := by rw [HNW.out]; unfold nameW; rw [hnm, if_neg h16]
        have HW := Lib.hid hww; have HX := Lib.hid hxl
        have h16' : ¬ (16 : Int) < (k : Int) - i := by omega
        clear hww hnm hki hxl h16
        go_wp2
        refine bodyPost_ret (v := .tuple #[.agg #[.int .i64 1, .string (s.extract i k), .int .i64 0, .int .i64 i], .int .i64 k, .int .i64 0]) (by simp [results, Tryd.results23, go_sem]) rfl ⟨(Below.refl _ _).alloc (Nat.le_refl _) _, 1, 0, i, k, s.extract i k, by rw [HW.out]; rfl, fun _ => by rw [HW.out]; exact ⟨rfl, (eta_b _ _ HX.out).symm, rfl, rfl, by simp only; omega⟩⟩
/-- number's part: dsz of the rest, and the string that Number is handed. -/
theorem dsz_cons (c : UInt8) (t : List UInt8) (h : isD c = true) : dsz (c :: t) = dsz t + 1 := by simp [dsz, h]
end Sc
end Go.Proofs.YtaillpnjknnhdaaDoor
