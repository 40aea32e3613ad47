/- next of package sprueref1, at quoted texts: what each call returns; nothing that was there turns. -/
import Derived.Test.YtaillpnjknnhdaaDoorRefF
namespace Go.Proofs.YtaillpnjknnhdaaDoor
open Go.RowKit
namespace Sc

theorem quotR_shift (d : Nat) (n : Nat) : ∀ (l b : List UInt8) (i : Nat), l.length ≤ n → quotR l b (i + d) = (quotR l b i).map (fun x => (x.1, x.2 + d)) := by
  induction n with
  | zero => intro l b i h; rw [List.eq_nil_of_length_eq_zero (by omega : l.length = 0)]; rfl
  | succ n ih =>
    intro l b i h
    match l, h with
    | [], _ => rfl
    | c :: r, h =>
      simp only [List.length_cons] at h
      by_cases c34 : c.toNat = 34
      · rw [r_quote c r b _ c34, r_quote c r b i c34]; simp; omega
      · by_cases c32 : c.toNat < 32
        · rw [r_low c r b _ c34 c32, r_low c r b i c34 c32]; rfl
        · by_cases c92 : c.toNat = 92
          · rw [r_slash c r b _ c92, r_slash c r b i c92]
            by_cases hm : meantL r = 0
            · rw [if_pos hm, if_pos hm]; rfl
            · rw [if_neg hm, if_neg hm, show i + d + 2 = i + 2 + d by omega]
              exact ih _ _ _ (by rw [List.length_drop]; omega)
          · rw [r_plain c r b _ c34 c32 c92, r_plain c r b i c34 c32 c92, show i + d + 1 = i + 1 + d by omega]
            exact ih _ _ _ (by omega)

set_option maxRecDepth 100000 in
set_option maxHeartbeats 4000000 in
theorem next_quot (s : ByteArray) (i : Nat) (w : World) (hs : s.size ≤ 2000) (hi : i < s.size) (h34 : s[i]'hi = 34) :
    Calls Tryd.prog 23 #[.string s, .int .i64 i] w (NextPost w i (wordW (s.data.toList.drop i))) := by
  have hi' : (i : Int) < s.size := by omega
  have hdr := drop_at s.data.toList i (lt_len hi)
  rw [bytes_at s i hi, h34] at hdr
  have hq : wordW (s.data.toList.drop i) = quotV (quotR (s.data.toList.drop (i + 1)) [] 1) := by
    rw [hdr]
    show quotGo (s.data.toList.drop (i + 1)) [] 1 = _
    exact quotGo_R _ _ _ _ (Nat.le_refl _)
  have hsh := quotR_shift i _ (s.data.toList.drop (i + 1)) [] 1 (Nat.le_refl _)
  rw [Nat.add_comm 1 i] at hsh
  have cQ := fun w => RQuoted_any s i w hs hi
  rw [hsh] at cQ
  clear hsh
  generalize quotR (s.data.toList.drop (i + 1)) [] 1 = o at *
  obtain ⟨c0, hc0⟩ : ∃ c, s[i]'hi = c := ⟨_, rfl⟩
  rw [hc0] at h34
  have hL0 : isL c0 = false := by rw [h34]; decide
  have hD0 : isD c0 = false := by rw [h34]; decide
  have t45 : ((c0.toNat : Int) == 45) = false := by rw [h34]; decide
  have t34 : ((c0.toNat : Int) == 34) = true := by rw [h34]; decide
  clear h34
  have HLA := Lib.hid rletter_b; have HDA := Lib.hid rdigit_b
  have BAD : ∀ w : World, ∀ x : Nat, wordW (s.data.toList.drop i) = bad x → x ≠ 0 → ∀ o : Obj, NextPost w i (wordW (s.data.toList.drop i)) (.returned (.tuple #[.agg #[.int .i64 0, .string ⟨#[]⟩, .int .i64 0, .int .i64 0], .int .i64 0, .int .i64 x])) (w.alloc o) := by
    intro w x hx h0 o
    refine ⟨(Below.refl _ _).alloc (Nat.le_refl _) _, 0, 0, 0, 0, ⟨#[]⟩, by rw [hx]; rfl, fun h => ?_⟩
    rw [hx] at h; exact absurd h h0
  cases o with
  | none =>
    have hq' : wordW (s.data.toList.drop i) = bad 11 := hq
    have HB := Lib.hid (BAD w 11 hq' (by decide))
    have cQ' : ∀ w, Calls Tryd.prog 36 #[.string s, .int .i64 i] w fun e w' => e = .returned (.tuple #[.string ⟨#[]⟩, .int .i64 (-1)]) ∧ w = w' := cQ
    have HQ := Lib.hid cQ'
    clear hq hq' cQ cQ' BAD
    go_enter Tryd.func23, Tryd.ntmps23
    go_wp2_with (first | (go_at_call 25; (with_reducible refine (HLA.out _ _).mono ?_); rintro e w' ⟨rfl, rfl⟩) | (go_at_call 26; (with_reducible refine (HDA.out _ _).mono ?_); rintro e w' ⟨rfl, rfl⟩) | (go_at_call 36; (with_reducible refine (HQ.out _).mono ?_); rintro e w' ⟨rfl, rfl⟩))
    refine bodyPost_ret (v := .tuple #[.agg #[.int .i64 0, .string ⟨#[]⟩, .int .i64 0, .int .i64 0], .int .i64 0, .int .i64 11]) (by simp [results, Tryd.results23, go_sem]) rfl (HB.out _)
  | some tk =>
    obtain ⟨t, k⟩ := tk
    have cQ' : ∀ w, Calls Tryd.prog 36 #[.string s, .int .i64 i] w fun e w' => e = .returned (.tuple #[.string ⟨t.toArray⟩, .int .i64 ((k + i : Nat) : Int)]) ∧ w = w' := cQ
    have hq' : wordW (s.data.toList.drop i) = if 200 < t.length then bad 4 else ⟨2, t, 0, k, 0⟩ := hq
    have hts : (⟨t.toArray⟩ : ByteArray).size = t.length := by simp [ByteArray.size]
    obtain ⟨tb, htb⟩ : ∃ tb : ByteArray, ⟨t.toArray⟩ = tb := ⟨_, rfl⟩
    rw [htb] at cQ' hts
    obtain ⟨kk, hkk⟩ : ∃ kk : Nat, k + i = kk := ⟨_, rfl⟩
    rw [hkk] at cQ'
    have HQ := Lib.hid cQ'
    clear hq cQ cQ'
    by_cases h200 : 200 < t.length
    · rw [if_pos h200] at hq'
      have HB := Lib.hid (BAD w 4 hq' (by decide))
      have h200' : (200 : Int) < tb.size := by omega
      clear hq' BAD h200 hts
      go_enter Tryd.func23, Tryd.ntmps23
      go_wp2_with (first | (go_at_call 25; (with_reducible refine (HLA.out _ _).mono ?_); rintro e w' ⟨rfl, rfl⟩) | (go_at_call 26; (with_reducible refine (HDA.out _ _).mono ?_); rintro e w' ⟨rfl, rfl⟩) | (go_at_call 36; (with_reducible refine (HQ.out _).mono ?_); rintro e w' ⟨rfl, rfl⟩))
      refine bodyPost_ret (v := .tuple #[.agg #[.int .i64 0, .string ⟨#[]⟩, .int .i64 0, .int .i64 0], .int .i64 0, .int .i64 4]) (by simp [results, Tryd.results23, go_sem]) rfl (HB.out _)
    · rw [if_neg h200] at hq'
      have h200' : ¬ (200 : Int) < tb.size := by omega
      have HW := Lib.hid hq'; have HTB := Lib.hid htb; have HKK := Lib.hid hkk
      clear hq' BAD h200 hts htb hkk
      go_enter Tryd.func23, Tryd.ntmps23
      go_wp2_with (first | (go_at_call 25; (with_reducible refine (HLA.out _ _).mono ?_); rintro e w' ⟨rfl, rfl⟩) | (go_at_call 26; (with_reducible refine (HDA.out _ _).mono ?_); rintro e w' ⟨rfl, rfl⟩) | (go_at_call 36; (with_reducible refine (HQ.out _).mono ?_); rintro e w' ⟨rfl, rfl⟩))
      refine bodyPost_ret (v := .tuple #[.agg #[.int .i64 2, .string tb, .int .i64 0, .int .i64 i], .int .i64 kk, .int .i64 0]) (by simp [results, Tryd.results23, go_sem]) rfl ⟨(Below.refl _ _).alloc (Nat.le_refl _) _, 2, 0, i, kk, tb, by rw [HW.out]; rfl, fun _ => ?_⟩
      rw [HW.out]
      exact ⟨rfl, HTB.out.symm, rfl, rfl, by simp only; have := HKK.out; omega⟩
end Sc
end Go.Proofs.YtaillpnjknnhdaaDoor
