/- Split of package sprueref2: what each call returns; the parts lie in memory of the call's own; nothing that was there turns. -/
import Derived.Test.YtjcmfgloojgknaaTSplit
namespace Go.Proofs.Ytjcmfgloojgknaa
open Go.RowKit
namespace Tx

theorem ext_mid (s : ByteArray) (a k : Nat) : s.extract a k = ⟨((s.data.toList.drop a).take (k - a)).toArray⟩ := by
  apply ByteArray.ext
  apply Array.ext'
  simp [ByteArray.data_extract]
theorem raw_text (l : List UInt8) (a k : Nat) (h : a < k) (hk : k ≤ l.length) (hi : idx2 (l.drop a) = k - a) :
    rawW (l.drop a) a = (rawW (l.drop k) k).map (⟨false, (l.drop a).take (k - a), a⟩ :: ·) := by
  have h2 := idx_no (l.drop a) (by omega)
  have hp := partL_text _ h2
  rw [hi] at hp
  rw [raw_some _ _ (by rw [List.length_drop]; omega) _ _ _ hp, List.drop_drop, show a + (k - a) = k by omega]
theorem raw_act (l : List UInt8) (k n : Nat) (hk : k < l.length) (h2 : two 123 (l.drop k) = true) (hn : insF false false (l.drop (k + 2)) = some n) :
    rawW (l.drop k) k = (rawW (l.drop (k + 2 + n + 2)) (k + 2 + n + 2)).map (⟨true, (l.drop (k + 2)).take n, k⟩ :: ·) := by
  rw [← List.drop_drop] at hn
  have hp := partL_some _ h2 n hn
  rw [raw_some _ _ (by rw [List.length_drop]; omega) _ _ _ hp, List.drop_drop, List.drop_drop, show k + (n + 4) = k + 2 + n + 2 by omega]
theorem raw_act_none (l : List UInt8) (k : Nat) (hk : k < l.length) (h2 : two 123 (l.drop k) = true) (hn : insF false false (l.drop (k + 2)) = none) : rawW (l.drop k) k = none := by
  rw [← List.drop_drop] at hn
  exact raw_none _ _ (by rw [List.length_drop]; omega) (partL_none _ h2 hn)
theorem map_snoc (o : Option (List P)) (ps : List P) (p : P) : (o.map (p :: ·)).map (ps ++ ·) = o.map ((ps ++ [p]) ++ ·) := by
  rw [Option.map_map]; congr 1; funext t; simp
theorem two_cases (s : ByteArray) (b k : Nat) (h : k < s.size) : two b (s.data.toList.drop k) = true ↔ ∃ h2 : k + 1 < s.size, (s[k]'h).toNat = b ∧ (s[k + 1]'h2).toNat = b := by
  by_cases h2 : k + 1 < s.size
  · rw [drop_byte s k h, drop_byte s (k + 1) h2]
    simp [two, h2]
  · rw [drop_byte s k h, List.drop_of_length_le (by rw [bytes_len]; omega)]
    simp [two, h2]

def RRel (w : World) (s : ByteArray) (v i at_ : Value) (wr : World) (k a : Nat) (ps : List P) : Prop :=
  a ≤ k ∧ k ≤ s.size ∧ ps.length ≤ a ∧ i = .int .i64 k ∧ at_ = .int .i64 a ∧ PMem 35 w wr v ps ∧ rawW s.data.toList 0 = (rawW (s.data.toList.drop a) a).map (ps ++ ·) ∧ idx2 (s.data.toList.drop a) = k - a + idx2 (s.data.toList.drop k)

set_option maxRecDepth 100000 in
set_option maxHeartbeats 400000 in
theorem RSplit_long (s : ByteArray) (w : World) (hs : s.size ≤ maxLen) (h : 1500 < s.size) :
    Calls Try.prog 12 #[.string s] w (SplitPost 35 w s.data.toList) := by
  have hT : splitL s.data.toList = (4, []) := by unfold splitL; rw [if_pos (by rw [bytes_len]; exact h)]
  have HT := Lib.hid hT; clear hT
  unfold maxLen at hs
  go_enter Try.func12, Try.ntmps12
  go_wp2
  go_ret2
  refine ⟨Below.refl _ _, .slice none 0 0, ?_, ?_⟩
  · rw [HT.out]; rfl
  · rw [HT.out]; exact World.ownsRow_nil _ _ _ _

set_option maxRecDepth 100000 in
set_option maxHeartbeats 8000000 in
theorem RSplit_in (s : ByteArray) (w : World) (hs : s.size ≤ 1500) :
    Calls Try.prog 12 #[.string s] w (SplitPost 35 w s.data.toList) := by
  have hT : splitL s.data.toList = splitOf (rawW s.data.toList 0) := by
    unfold splitL; rw [if_neg (by rw [bytes_len]; omega)]
  have HT := Lib.hid hT; clear hT
  go_enter Try.func12, Try.ntmps12
  go_wp2
  go_loopw [4, 5, 6] (fun v i at_ wr => ∃ k a ps, RRel w s v i at_ wr k a ps) (fun _ i _ _ => s.size - (intOf i).toNat)
  case atStart => exact ⟨0, 0, [], by omega, by omega, by simp, rfl, rfl, ⟨World.ownsRow_nil _ _ _ _, Below.refl _ _⟩, by simp, by simp⟩
  case round =>
    obtain ⟨k, a, ps, hak, hk, hpa, rfl, rfl, hm, hq, hi⟩ := hrel
    have HQ := Lib.hid hq; have HI := Lib.hid hi; clear hq hi
    have HM := Lib.hid hm
    have hsw := hm.bel.size
    obtain ⟨ad, cp, rfl⟩ := own_slice hm.own
    clear hm
    obtain ⟨i0, hi0, hz0', hz1', hz2'⟩ := info_parts info_rpart
    by_cases hks : k < s.size
    · cases h2 : two 123 (s.data.toList.drop k) with
      | false =>
        have hst := idx_step (s[k]'hks) (s.data.toList.drop (k + 1)) (by rw [← drop_byte s k hks]; exact h2)
        rw [← drop_byte s k hks] at hst
        have hi' : idx2 (s.data.toList.drop a) = k + 1 - a + idx2 (s.data.toList.drop (k + 1)) := by rw [HI.out, hst]; omega
        have hno : ¬ ∃ h2 : k + 1 < s.size, (s[k]'hks).toNat = 123 ∧ (s[k + 1]'h2).toNat = 123 := by
          rw [← two_cases s 123 k hks, h2]; simp
        have HF := Lib.hid hi'; have HN := Lib.hid hno
        clear hst hi' hno h2 HI
        by_cases h3 : k + 1 < s.size
        · by_cases hc : (s[k]'hks).toNat = 123
          · have hd : (s[k + 1]'h3).toNat ≠ 123 := fun e => HN.out ⟨h3, hc, e⟩
            have t1 : (((s[k]'hks).toNat : Int) != 123) = false := by simp [hc]
            have t2 : (((s[k + 1]'h3).toNat : Int) != 123) = true := by simp; omega
            clear hc hd
            go_wp2
            go_roundw
            case rel => exact ⟨k + 1, a, ps, by omega, by omega, hpa, by go_num, rfl, HM.out, HQ.out, HF.out⟩
            case measure => simp [intOf]; omega
          · have t1 : (((s[k]'hks).toNat : Int) != 123) = true := by simp; omega
            clear hc
            go_wp2
            go_roundw
            case rel => exact ⟨k + 1, a, ps, by omega, by omega, hpa, by go_num, rfl, HM.out, HQ.out, HF.out⟩
            case measure => simp [intOf]; omega
        · go_wp2
          go_roundw
          case rel => exact ⟨k + 1, a, ps, by omega, by omega, hpa, by go_num, rfl, HM.out, HQ.out, HF.out⟩
          case measure => simp [intOf]; omega
      | true =>
        obtain ⟨h3, hc, hd⟩ := (two_cases s 123 k hks).1 h2
        have t1 : (((s[k]'hks).toNat : Int) != 123) = false := by simp [hc]
        have t2 : (((s[k + 1]'h3).toNat : Int) != 123) = false := by simp [hd]
        have hia : idx2 (s.data.toList.drop a) = k - a := by rw [HI.out, idx_zero _ h2]; rfl
        have cE := fun w => end_any s (k + 2) w (by omega) (by omega)
        rw [show ((k + 2 : Nat) : Int) = (k : Int) + 2 by omega] at cE
        have hlk : k < s.data.toList.length := by rw [bytes_len]; exact hks
        clear hc hd HI
        cases hn : insF false false (s.data.toList.drop (k + 2)) with
        | none =>
          have hr := raw_act_none _ k hlk h2 hn
          rw [hn] at cE
          have hraw : rawW s.data.toList 0 = none := by
            rw [HQ.out]
            by_cases hka : a < k
            · rw [raw_text _ a k hka (by omega) hia, hr]; rfl
            · obtain rfl : a = k := by omega
              rw [hr]; rfl
          have hTT := HT.out; rw [hraw] at hTT
          simp only [splitOf] at hTT
          simp only [endV] at cE
          have HTT := Lib.hid hTT; have HE := Lib.hid cE
          clear hr hraw hTT HQ HT cE hn h2 hia hlk
          by_cases hka : a < k
          · have hka' : (a : Int) < k := by omega
            go_wp2_with (first
              | (go_at_call 17; (with_reducible refine (HE.out _).mono ?_); rintro e w' ⟨rfl, rfl⟩)
              | (at_builtin; (refine wpList_append_own _ rfl _ _ 30 rfl w.heap.size 35 i0 (.agg #[.bool false, .string ⟨#[]⟩, .int .i64 0]) 3 32 Try.underlying30 hi0 hz0' hz1' hz2' rfl (by decide) _ _ _ rfl (HM.out.own.alloc _) ⟨wr.heap.size, 0, none⟩ 1 1 [.bool false, .string (s.extract a k), .int .i64 a] rfl rfl (cell_three_new _ _ _ _ _) (fun x hx => by simp at hx; rcases hx with rfl | rfl | rfl <;> rfl) (by unfold maxLen; omega) (by omega) (by simp; omega) ?_); intro v' w3 hown' hgrow _; have HOW := Lib.hid hown'; have HGR := Lib.hid hgrow; have hgs := hgrow.size; simp at hgs; clear hown' hgrow))
            go_ret2
            have M := (HM.out.same ((Below.refl _ _).alloc (Nat.le_refl _) _)).grow ⟨false, (s.data.toList.drop a).take (k - a), a⟩ (by have := HOW.out; rw [ext_mid] at this; exact this) HGR.out
            refine ⟨M.bel, .slice none 0 0, ?_, ?_⟩
            · rw [HTT.out]; rfl
            · rw [HTT.out]; exact World.ownsRow_nil _ _ _ _
          · have hka' : ¬ (a : Int) < k := by omega
            go_wp2_with (go_at_call 17; (with_reducible refine (HE.out _).mono ?_); rintro e w' ⟨rfl, rfl⟩)
            go_ret2
            refine ⟨HM.out.bel, .slice none 0 0, ?_, ?_⟩
            · rw [HTT.out]; rfl
            · rw [HTT.out]; exact World.ownsRow_nil _ _ _ _
        | some n =>
          have hr := raw_act _ k n hlk h2 hn
          have hlt := ins_lt _ _ _ _ hn
          rw [List.length_drop, bytes_len] at hlt
          rw [hn] at cE
          simp only [endV] at cE
          have e3 : (s.data.toList.drop (k + 2)).take n = (s.data.toList.drop (k + 2)).take (k + 2 + n - (k + 2)) := by congr 1; omega
          rw [e3] at hr
          generalize hkk : k + 2 + n = kk at *
          have hkk1 : k + 2 ≤ kk := by omega
          have hkk2 : kk + 2 ≤ s.size := by omega
          have HE := Lib.hid cE; have HR := Lib.hid hr
          clear cE hr hn hlt e3 hkk h2 n
          by_cases hka : a < k
          · have hka' : (a : Int) < k := by omega
            have hF : rawW s.data.toList 0 = (rawW (s.data.toList.drop (kk + 2)) (kk + 2)).map (((ps ++ [⟨false, (s.data.toList.drop a).take (k - a), a⟩]) ++ [⟨true, (s.data.toList.drop (k + 2)).take (kk - (k + 2)), k⟩]) ++ ·) := by
              rw [HQ.out, raw_text _ a k hka (by omega) hia, map_snoc, HR.out, map_snoc]
            have HF := Lib.hid hF
            clear hF hia HQ HR hlk
            go_wp2_with (first
              | (go_at_call 17; (with_reducible refine (HE.out _).mono ?_); rintro e w' ⟨rfl, rfl⟩)
              | (at_builtin; (refine wpList_append_own _ rfl _ _ 30 rfl w.heap.size 35 i0 (.agg #[.bool false, .string ⟨#[]⟩, .int .i64 0]) 3 32 Try.underlying30 hi0 hz0' hz1' hz2' rfl (by decide) _ _ _ rfl (HM2.out.own.alloc _) ⟨w3.heap.size, 0, none⟩ 1 1 [.bool true, .string (s.extract (k + 2) kk), .int .i64 k] rfl rfl (cell_three_new _ _ _ _ _) (fun x hx => by simp at hx; rcases hx with rfl | rfl | rfl <;> rfl) (by unfold maxLen; omega) (by omega) (by simp; omega) ?_); intro v'' w4 hown' hgrow _; have HOW2 := Lib.hid hown'; have HGR2 := Lib.hid hgrow; have hgs2 := hgrow.size; simp at hgs2; clear hown' hgrow)
              | (at_builtin; (refine wpList_append_own _ rfl _ _ 30 rfl w.heap.size 35 i0 (.agg #[.bool false, .string ⟨#[]⟩, .int .i64 0]) 3 32 Try.underlying30 hi0 hz0' hz1' hz2' rfl (by decide) _ _ _ rfl (HM.out.own.alloc _) ⟨wr.heap.size, 0, none⟩ 1 1 [.bool false, .string (s.extract a k), .int .i64 a] rfl rfl (cell_three_new _ _ _ _ _) (fun x hx => by simp at hx; rcases hx with rfl | rfl | rfl <;> rfl) (by unfold maxLen; omega) (by omega) (by simp; omega) ?_); intro v' w3 hown' hgrow _; have hm2 := (HM.out.same ((Below.refl _ _).alloc (Nat.le_refl _) _)).grow ⟨false, (s.data.toList.drop a).take (k - a), a⟩ (by rw [ext_mid] at hown'; exact hown') hgrow; obtain ⟨qs, hqs⟩ : ∃ qs, ps ++ [⟨false, (s.data.toList.drop a).take (k - a), a⟩] = qs := ⟨_, rfl⟩; rw [hqs] at hm2; have hql : qs.length ≤ k := by { rw [← hqs]; simp; omega }; obtain ⟨a2, c2, rfl⟩ := own_slice hm2.own; have HM2 := Lib.hid hm2; have HQS := Lib.hid hqs; have hgs := hgrow.size; simp at hgs; clear hown' hgrow hm2 hqs))
            go_roundw
            case rel =>
              have M := (HM2.out.same ((Below.refl _ _).alloc (Nat.le_refl _) _)).grow ⟨true, (s.data.toList.drop (k + 2)).take (kk - (k + 2)), k⟩ (by have := HOW2.out; rw [ext_mid] at this; exact this) HGR2.out
              exact ⟨kk + 2, kk + 2, _, by omega, by omega, by simp; omega, by go_num, by go_num, M, by rw [← HQS.out]; exact HF.out, by omega⟩
            case measure => simp [intOf]; omega
          · obtain rfl : a = k := by omega
            have hF : rawW s.data.toList 0 = (rawW (s.data.toList.drop (kk + 2)) (kk + 2)).map ((ps ++ [⟨true, (s.data.toList.drop (a + 2)).take (kk - (a + 2)), a⟩]) ++ ·) := by
              rw [HQ.out, HR.out, map_snoc]
            have HF := Lib.hid hF
            clear hF hia HQ HR hlk
            go_wp2_with (first
              | (go_at_call 17; (with_reducible refine (HE.out _).mono ?_); rintro e w' ⟨rfl, rfl⟩)
              | (at_builtin; (refine wpList_append_own _ rfl _ _ 30 rfl w.heap.size 35 i0 (.agg #[.bool false, .string ⟨#[]⟩, .int .i64 0]) 3 32 Try.underlying30 hi0 hz0' hz1' hz2' rfl (by decide) _ _ _ rfl (HM.out.own.alloc _) ⟨wr.heap.size, 0, none⟩ 1 1 [.bool true, .string (s.extract (a + 2) kk), .int .i64 a] rfl rfl (cell_three_new _ _ _ _ _) (fun x hx => by simp at hx; rcases hx with rfl | rfl | rfl <;> rfl) (by unfold maxLen; omega) (by omega) (by simp; omega) ?_); intro v'' w4 hown' hgrow _; have HOW2 := Lib.hid hown'; have HGR2 := Lib.hid hgrow; have hgs2 := hgrow.size; simp at hgs2; clear hown' hgrow))
            go_roundw
            case rel =>
              have M := (HM.out.same ((Below.refl _ _).alloc (Nat.le_refl _) _)).grow ⟨true, (s.data.toList.drop (a + 2)).take (kk - (a + 2)), a⟩ (by have := HOW2.out; rw [ext_mid] at this; exact this) HGR2.out
              exact ⟨kk + 2, kk + 2, _, by omega, by omega, by simp; omega, by go_num, by go_num, M, HF.out, by omega⟩
            case measure => simp [intOf]; omega
    · have hks' : k = s.size := by omega
      subst hks'
      have hnil : s.data.toList.drop s.size = [] := List.drop_of_length_le (by rw [bytes_len]; exact Nat.le_refl _)
      have hia : idx2 (s.data.toList.drop a) = s.size - a := by rw [HI.out, hnil]; rfl
      by_cases hka : a < s.size
      · have hraw : rawW s.data.toList 0 = some (ps ++ [⟨false, (s.data.toList.drop a).take (s.size - a), a⟩]) := by
          rw [HQ.out, raw_text _ a s.size hka (by rw [bytes_len]; exact Nat.le_refl _) hia, hnil, raw_nil]; rfl
        have hTT := HT.out; rw [hraw] at hTT
        simp only [splitOf] at hTT
        rw [List.length_append, List.length_singleton] at hTT
        have hka' : (a : Int) < s.size := by omega
        clear hraw hia hnil HQ HI HT
        by_cases h4 : 200 < ps.length + 1
        · rw [if_pos h4] at hTT
          have HTT := Lib.hid hTT; clear hTT
          go_wp2_with (at_builtin; (refine wpList_append_own _ rfl _ _ 30 rfl w.heap.size 35 i0 (.agg #[.bool false, .string ⟨#[]⟩, .int .i64 0]) 3 32 Try.underlying30 hi0 hz0' hz1' hz2' rfl (by decide) _ _ _ rfl (HM.out.own.alloc _) ⟨wr.heap.size, 0, none⟩ 1 1 [.bool false, .string (s.extract a s.size), .int .i64 a] rfl rfl (cell_three_new _ _ _ _ _) (fun x hx => by simp at hx; rcases hx with rfl | rfl | rfl <;> rfl) (by unfold maxLen; omega) (by omega) (by simp; omega) ?_); intro v' w3 hown' hgrow _; have HM2 := Lib.hid ((HM.out.same ((Below.refl _ _).alloc (Nat.le_refl _) _)).grow ⟨false, (s.data.toList.drop a).take (s.size - a), a⟩ (by rw [ext_mid] at hown'; exact hown') hgrow); obtain ⟨a2, c2, rfl⟩ := own_slice hown'; have hgs := hgrow.size; simp at hgs; clear hown' hgrow)
          go_ret2
          refine ⟨HM2.out.bel, .slice none 0 0, ?_, ?_⟩
          · rw [HTT.out]; rfl
          · rw [HTT.out]; exact World.ownsRow_nil _ _ _ _
        · rw [if_neg h4] at hTT
          have HTT := Lib.hid hTT; clear hTT
          go_wp2_with (at_builtin; (refine wpList_append_own _ rfl _ _ 30 rfl w.heap.size 35 i0 (.agg #[.bool false, .string ⟨#[]⟩, .int .i64 0]) 3 32 Try.underlying30 hi0 hz0' hz1' hz2' rfl (by decide) _ _ _ rfl (HM.out.own.alloc _) ⟨wr.heap.size, 0, none⟩ 1 1 [.bool false, .string (s.extract a s.size), .int .i64 a] rfl rfl (cell_three_new _ _ _ _ _) (fun x hx => by simp at hx; rcases hx with rfl | rfl | rfl <;> rfl) (by unfold maxLen; omega) (by omega) (by simp; omega) ?_); intro v' w3 hown' hgrow _; have HM2 := Lib.hid ((HM.out.same ((Below.refl _ _).alloc (Nat.le_refl _) _)).grow ⟨false, (s.data.toList.drop a).take (s.size - a), a⟩ (by rw [ext_mid] at hown'; exact hown') hgrow); obtain ⟨a2, c2, rfl⟩ := own_slice hown'; have hgs := hgrow.size; simp at hgs; clear hown' hgrow)
          go_ret2
          refine ⟨HM2.out.bel, .slice a2 (ps.length + 1) c2, ?_, ?_⟩
          · rw [HTT.out]; rfl
          · rw [HTT.out]; exact HM2.out.own
      · obtain rfl : a = s.size := by omega
        have hraw : rawW s.data.toList 0 = some ps := by rw [HQ.out, hnil, raw_nil]; simp
        have hTT := HT.out; rw [hraw] at hTT
        simp only [splitOf] at hTT
        clear hraw hia hnil HQ HI HT
        by_cases h4 : 200 < ps.length
        · rw [if_pos h4] at hTT
          have HTT := Lib.hid hTT; clear hTT
          go_wp2
          go_ret2
          refine ⟨HM.out.bel, .slice none 0 0, ?_, ?_⟩
          · rw [HTT.out]; rfl
          · rw [HTT.out]; exact World.ownsRow_nil _ _ _ _
        · rw [if_neg h4] at hTT
          have HTT := Lib.hid hTT; clear hTT
          go_wp2
          go_ret2
          refine ⟨HM.out.bel, .slice ad ps.length cp, ?_, ?_⟩
          · rw [HTT.out]; rfl
          · rw [HTT.out]; exact HM.out.own

theorem RSplit_any (s : ByteArray) (w : World) (hs : s.size ≤ maxLen) :
    Calls Try.prog 12 #[.string s] w (SplitPost 35 w s.data.toList) := by
  by_cases h : 1500 < s.size
  · exact RSplit_long s w hs h
  · exact RSplit_in s w (by omega)
end Tx
end Go.Proofs.Ytjcmfgloojgknaa
