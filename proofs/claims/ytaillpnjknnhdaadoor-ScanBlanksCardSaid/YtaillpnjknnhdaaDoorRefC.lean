/- Quoted of package sprueref1: what each call returns; the world stays. Written by gen_refc.py. -/
import Derived.Test.YtaillpnjknnhdaaDoorRefB
namespace Go.Proofs.YtaillpnjknnhdaaDoor
open Go.RowKit
namespace Sc

theorem eta_b (s : ByteArray) (l : List UInt8) (h : s.data.toList = l) : (⟨l.toArray⟩ : ByteArray) = s := by subst h; cases s; simp
theorem cat_b (a b : ByteArray) : (a ++ b).data.toList = a.data.toList ++ b.data.toList := by
  rw [ByteArray.data_append, Array.toList_append]
theorem qres_some (o : Option (List UInt8 × Nat)) (s : ByteArray) (l : List UInt8) (k : Nat) (h : o = some (l, k)) (hs : s.data.toList = l) : qres o = .tuple #[.string s, .int .i64 k] := by
  rw [h]; unfold qres; simp only; rw [eta_b s l hs]

set_option maxRecDepth 100000 in
set_option maxHeartbeats 4000000 in
theorem RQuoted_any (s : ByteArray) (i : Nat) (w : World) (hs : s.size ≤ 2000) (hi : i < s.size) :
    Calls Tryd.prog 36 #[.string s, .int .i64 i] w fun e w' => e = .returned (qres (quotR (s.data.toList.drop (i + 1)) [] (i + 1))) ∧ w = w' := by
  go_enter Tryd.func36, Tryd.ntmps36
  go_wp2
  go_loop [1, 6] (fun iv ov => ∃ (k : Nat) (acc : List UInt8) (t : ByteArray), k ≤ s.size ∧ iv = .int .i64 k ∧ ov = .string t ∧ t.size ≤ k ∧ Hid (t.data.toList = acc) ∧ Hid (quotR (s.data.toList.drop (i + 1)) [] (i + 1) = quotR (s.data.toList.drop k) acc k)) (fun iv _ => s.size - (intOf iv).toNat)
  case atStart => exact ⟨i + 1, [], _, by omega, by go_num, rfl, by simp [ByteArray.size], rfl, rfl⟩
  case round =>
    obtain ⟨k, acc, t, hk, rfl, rfl, hts, ht, hq⟩ := hrel
    by_cases hks : k < s.size
    · have hdr := drop_at s.data.toList k (lt_len hks)
      rw [bytes_at s k hks] at hdr
      obtain ⟨u1, u2⟩ := cut1 s k hks
      obtain ⟨c, hcc⟩ : ∃ c, s[k]'hks = c := ⟨_, rfl⟩
      rw [hcc] at hdr u1
      by_cases c34 : c.toNat = 34
      · have t34 : ((c.toNat : Int) == 34) = true := by simp [c34]
        have hqq := r_quote c (s.data.toList.drop (k + 1)) acc k c34
        rw [← hdr, ← hq.out] at hqq
        have HF := Lib.hid (qres_some _ t _ _ hqq ht.out); clear hqq hdr c34 u1 u2
        go_wp2
        go_ret2
        exact ⟨by rw [HF.out]; rfl, rfl⟩
      · have t34 : ((c.toNat : Int) == 34) = false := by simp; omega
        by_cases c32 : c.toNat < 32
        · have hqq := r_low c (s.data.toList.drop (k + 1)) acc k c34 c32
          rw [← hdr, ← hq.out] at hqq
          have HF := Lib.hid hqq; clear hqq hdr c34 u1 u2
          go_wp2
          go_ret2
          exact ⟨by rw [HF.out]; rfl, rfl⟩
        · by_cases c92 : c.toNat = 92
          · have t92 : ((c.toNat : Int) == 92) = true := by simp [c92]
            have t92n : ((c.toNat : Int) != 92) = false := by simp [c92]
            have hqq := r_slash c (s.data.toList.drop (k + 1)) acc k c92
            rw [← hdr, ← hq.out, List.drop_drop] at hqq
            by_cases hk1 : k + 1 < s.size
            · have hdr2 := drop_at s.data.toList (k + 1) (lt_len hk1)
              rw [bytes_at s (k + 1) hk1] at hdr2
              obtain ⟨v1, v2⟩ := cut1 s (k + 1) hk1
              obtain ⟨d, hdd⟩ : ∃ d, s[k + 1]'hk1 = d := ⟨_, rfl⟩
              rw [hdd] at hdr2 v1
              rw [hdr2, show meantL (d :: s.data.toList.drop (k + 1 + 1)) = meantB d from rfl] at hqq
              clear hdr hdr2 c34 c92
              by_cases d1 : d.toNat = 92 ∨ d.toNat = 34
              · have hm : meantB d = d.toNat := by unfold meantB; rcases d1 with h | h <;> simp [h]
                rw [hm, if_neg (by omega), show d.toNat.toUInt8 = d by simp] at hqq
                have HF := Lib.hid hqq; clear hqq hm
                have key : (t ++ s.extract (k + 1) (k + 1 + 1)).size ≤ k + 2 ∧ Hid ((t ++ s.extract (k + 1) (k + 1 + 1)).data.toList = acc ++ [d]) := by
                  refine ⟨?_, ?_⟩
                  · rw [ByteArray.size_append, v2]; omega
                  · unfold Hid; rw [cat_b, ht.out]; rw [v1]
                have KY := Lib.hid key
                clear key
                rcases d1 with h | h
                · have e1 : ((d.toNat : Int) == 92) = true := by simp [h]
                  clear h
                  go_wp2
                  go_round
                  case rel => exact ⟨k + 2, acc ++ [d], _, by omega, by go_num, rfl, KY.out.1, KY.out.2, HF.out⟩
                  case measure => simp [intOf]; omega
                · have e1 : ((d.toNat : Int) == 92) = false := by simp; omega
                  have e2 : ((d.toNat : Int) == 34) = true := by simp [h]
                  clear h
                  go_wp2
                  go_round
                  case rel => exact ⟨k + 2, acc ++ [d], _, by omega, by go_num, rfl, KY.out.1, KY.out.2, HF.out⟩
                  case measure => simp [intOf]; omega
              · have e1 : ((d.toNat : Int) == 92) = false := by simp; omega
                have e2 : ((d.toNat : Int) == 34) = false := by simp; omega
                by_cases d2 : d.toNat = 110
                · have e3 : ((d.toNat : Int) == 110) = true := by simp [d2]
                  have hm : meantB d = 10 := by unfold meantB; simp [d2]
                  rw [hm, if_neg (by omega)] at hqq
                  have HF := Lib.hid hqq; clear hqq hm d1 d2 v1 v2
                  have key : (t ++ ⟨#[10]⟩).size ≤ k + 2 ∧ Hid ((t ++ ⟨#[10]⟩).data.toList = acc ++ [(10 : Nat).toUInt8]) := by
                    refine ⟨?_, ?_⟩
                    · rw [ByteArray.size_append]; show _ + 1 ≤ _; omega
                    · unfold Hid; rw [cat_b, ht.out]; rfl
                  have KY := Lib.hid key
                  clear key
                  go_wp2
                  go_round
                  case rel => exact ⟨k + 2, acc ++ [(10 : Nat).toUInt8], _, by omega, by go_num, rfl, KY.out.1, KY.out.2, HF.out⟩
                  case measure => simp [intOf]; omega
                · have e3 : ((d.toNat : Int) == 110) = false := by simp; omega
                  by_cases d3 : d.toNat = 116
                  · have e4 : ((d.toNat : Int) == 116) = true := by simp [d3]
                    have hm : meantB d = 9 := by unfold meantB; simp [d3]
                    rw [hm, if_neg (by omega)] at hqq
                    have HF := Lib.hid hqq; clear hqq hm d1 d2 d3 v1 v2
                    have key : (t ++ ⟨#[9]⟩).size ≤ k + 2 ∧ Hid ((t ++ ⟨#[9]⟩).data.toList = acc ++ [(9 : Nat).toUInt8]) := by
                      refine ⟨?_, ?_⟩
                      · rw [ByteArray.size_append]; show _ + 1 ≤ _; omega
                      · unfold Hid; rw [cat_b, ht.out]; rfl
                    have KY := Lib.hid key
                    clear key
                    go_wp2
                    go_round
                    case rel => exact ⟨k + 2, acc ++ [(9 : Nat).toUInt8], _, by omega, by go_num, rfl, KY.out.1, KY.out.2, HF.out⟩
                    case measure => simp [intOf]; omega
                  · have e4 : ((d.toNat : Int) == 116) = false := by simp; omega
                    have hm : meantB d = 0 := by
                      unfold meantB
                      rw [if_neg (fun h => d1 (Or.inl h)), if_neg (fun h => d1 (Or.inr h)), if_neg d2, if_neg d3]
                    rw [hm, if_pos rfl] at hqq
                    have HF := Lib.hid hqq; clear hqq hm d1 d2 d3 v1 v2
                    go_wp2
                    go_ret2
                    exact ⟨by rw [HF.out]; rfl, rfl⟩
            · have hk2 : k + 1 = s.size := by omega
              rw [hk2, ← bytes_len, List.drop_length, show meantL [] = 0 from rfl, if_pos rfl] at hqq
              have HF := Lib.hid hqq; clear hqq hdr c34 c92
              have hk3 : (s.size : Int) ≤ (k : Int) + 1 := by omega
              clear hk2 hk1
              go_wp2
              go_ret2
              exact ⟨by rw [HF.out]; rfl, rfl⟩
          · have t92 : ((c.toNat : Int) == 92) = false := by simp; omega
            have t92n : ((c.toNat : Int) != 92) = true := by simp; omega
            have hqq := r_plain c (s.data.toList.drop (k + 1)) acc k c34 c32 c92
            rw [← hdr, ← hq.out] at hqq
            have HF := Lib.hid hqq; clear hqq hdr c34 c92
            have key : (t ++ s.extract k (k + 1)).size ≤ k + 1 ∧ Hid ((t ++ s.extract k (k + 1)).data.toList = acc ++ [c]) := by
              refine ⟨?_, ?_⟩
              · rw [ByteArray.size_append, u2]; omega
              · unfold Hid; rw [cat_b, ht.out]; rw [u1]
            have KY := Lib.hid key
            clear key
            go_wp2
            go_round
            case rel => exact ⟨k + 1, acc ++ [c], _, by omega, by go_num, rfl, KY.out.1, KY.out.2, HF.out⟩
            case measure => simp [intOf]; omega
    · have hks2 : k = s.size := by omega
      have hqq : quotR (s.data.toList.drop (i + 1)) [] (i + 1) = none := by rw [hq.out, hks2, ← bytes_len, List.drop_length]; rfl
      have HF := Lib.hid hqq; clear hqq hks
      go_wp2
      go_ret2
      exact ⟨by rw [HF.out]; rfl, rfl⟩
end Sc
end Go.Proofs.YtaillpnjknnhdaaDoor
