/- quoted: what each call returns; nothing that was there turns. -/
import Derived.Test.YtlfbcaenlifmkaaGreatDoorB26
import Derived.Test.YtlfbcaenlifmkaaGreatDoorB4
namespace Go.Proofs.YtlfbcaenlifmkaaGreatDoor
open Go.RowKit
namespace Sc
abbrev zero4 : Array Value := #[.int .i64 0, .string ⟨#[]⟩, .int .i64 0, .int .i64 0]
def QRel (w : World) (l : List UInt8) (v i : Value) (wr : World) (k : Nat) (acc : List UInt8) : Prop :=
  k ≤ l.length ∧ acc.length ≤ k ∧ i = .int .i64 k ∧ QMem w wr zero4 157 v acc ∧ quotW l = quotGo (l.drop k) acc k
theorem B_nat (m : Nat) (h : m < 256) : B m.toUInt8 = .int .u8 m := by
  unfold B; congr 1; simp; omega
theorem drop_ext (s : ByteArray) (k : Nat) : (s.extract k s.size).data.toList = s.data.toList.drop k := by
  rw [← Lib.extract_to_end]
set_option maxRecDepth 100000 in
set_option maxHeartbeats 2000000 in
theorem quoted_any (s : ByteArray) (w : World) (hs : s.size ≤ 2000) (h1 : 1 ≤ s.size) :
    Calls Tryz.prog 122 #[.string s] w fun e w' => e = .returned (quotW s.data.toList).val ∧ Below w.heap.size w w' := by
  go_enter Tryz.func122, Tryz.ntmps122
  go_wp2
  go_loopw [5, 6] (fun v i wr => ∃ k acc, QRel w s.data.toList v i wr k acc) (fun _ i _ => s.size - (intOf i).toNat)
  case atStart => exact ⟨1, [], by rw [bytes_len]; exact h1, by simp, rfl, QMem.start _ _ _, rfl⟩
  case round =>
    obtain ⟨k, acc, hk, hak, rfl, hm, hq⟩ := hrel
    rw [bytes_len] at hk
    obtain ⟨a, c, rfl⟩ := own_slice hm.own
    obtain ⟨⟨q0, q1, q2, q3⟩, ⟨z0, z1, z2, z3⟩⟩ := four_blk hm.blk
    have hlt := hm.lt
    have hbel := hm.bel
    have HQ := Lib.hid hq; clear hq
    have HM := Lib.hid hm; clear hm
    by_cases hks : k < s.size
    · have hdr := drop_at s.data.toList k (lt_len hks)
      rw [bytes_at s k hks] at hdr
      obtain ⟨cc, hcc⟩ : ∃ cc, s[k]'hks = cc := ⟨_, rfl⟩
      rw [hcc] at hdr
      by_cases c34 : cc.toNat = 34
      · have t34 : ((cc.toNat : Int) == 34) = true := by simp [c34]
        have hqq := q_quote cc (s.data.toList.drop (k + 1)) acc k c34
        rw [← hdr, ← HQ.out] at hqq
        clear hdr c34 HQ
        by_cases hl : 200 < acc.length
        · rw [if_pos hl] at hqq
          have HF := Lib.hid hqq; clear hqq
          go_wp2
          refine bodyPost_ret (v := (bad 4).val) (by simp [results, Tryz.results122, go_sem, W.val, bad, q0, q1, q2, q3]) rfl ⟨by rw [HF.out], ?_⟩
          exact (((hbel.setCell (Nat.le_refl _) _).setCell (Nat.le_refl _) _).setCell (Nat.le_refl _) _).setCell (Nat.le_refl _) _
        · rw [if_neg hl] at hqq
          have HF := Lib.hid hqq; clear hqq
          have hcv := conv_own HM.out.own
          go_wp2
          refine bodyPost_ret (v := (W.val ⟨2, acc, 0, k + 1, 0⟩)) (by simp [results, Tryz.results122, go_sem, W.val, q0, q1, q2, q3]) rfl ⟨by rw [HF.out], ?_⟩
          exact (((hbel.setCell (Nat.le_refl _) _).setCell (Nat.le_refl _) _).setCell (Nat.le_refl _) _).setCell (Nat.le_refl _) _
      · have t34 : ((cc.toNat : Int) == 34) = false := by simp; omega
        by_cases c32 : cc.toNat < 32
        · have hqq := q_low cc (s.data.toList.drop (k + 1)) acc k c34 c32
          rw [← hdr, ← HQ.out] at hqq
          have HF := Lib.hid hqq; clear hqq hdr c34 HQ
          go_wp2
          refine bodyPost_ret (v := (bad 11).val) (by simp [results, Tryz.results122, go_sem, W.val, bad, q0, q1, q2, q3]) rfl ⟨by rw [HF.out], ?_⟩
          exact (((hbel.setCell (Nat.le_refl _) _).setCell (Nat.le_refl _) _).setCell (Nat.le_refl _) _).setCell (Nat.le_refl _) _
        · by_cases c92 : cc.toNat = 92
          · have t92 : ((cc.toNat : Int) == 92) = true := by simp [c92]
            have hqq := q_slash cc (s.data.toList.drop (k + 1)) acc k c92
            rw [← hdr, ← HQ.out, List.drop_drop] at hqq
            have hC := meant_any (s.extract (k + 1) s.size) wr (by rw [ByteArray.size_extract]; unfold maxLen; omega)
            rw [drop_ext] at hC
            have hm256 := meantL_lt (s.data.toList.drop (k + 1))
            have hm0 : k + 1 = s.size → meantL (s.data.toList.drop (k + 1)) = 0 := by
              intro e; rw [e, ← bytes_len, List.drop_length]; rfl
            generalize meantL (s.data.toList.drop (k + 1)) = m at *
            have HC := Lib.hid hC; clear hC hdr c34 HQ c92
            by_cases m0 : m = 0
            · subst m0
              rw [if_pos rfl] at hqq
              have HF := Lib.hid hqq; clear hqq hm0
              go_wp2_with (go_at_call 161; refine HC.out.mono ?_; rintro e w' ⟨rfl, rfl⟩)
              refine bodyPost_ret (v := (bad 11).val) (by simp [results, Tryz.results122, go_sem, W.val, bad, q0, q1, q2, q3]) rfl ⟨by rw [HF.out], ?_⟩
              exact (((hbel.setCell (Nat.le_refl _) _).setCell (Nat.le_refl _) _).setCell (Nat.le_refl _) _).setCell (Nat.le_refl _) _
            · have hk2 : k + 2 ≤ s.size := by
                rcases Nat.lt_or_ge (k + 1) s.size with h | h
                · omega
                · exact absurd (hm0 (by omega)) m0
              have tm0 : ((m : Int) == 0) = false := by simp; omega
              rw [if_neg m0] at hqq
              have HF := Lib.hid hqq; clear hqq hm0
              obtain ⟨i0, hi, hz0, hz1, hz2⟩ := info_parts info_u8
              go_wp2_with (first
                | (go_at_call 161; refine HC.out.mono ?_; rintro e w' ⟨rfl, rfl⟩)
                | (at_builtin; refine wpList_append_own _ rfl _ _ 43 rfl (w.heap.size + 1) 5 i0 (.int .u8 0) 1 1 Tryz.underlying43 hi hz0 hz1 hz2 rfl (by decide) _ _ _ rfl (HM.out.own.alloc _) ⟨wr.heap.size, 0, none⟩ 1 1 [.int .u8 m] rfl rfl (cell_one_new _ _ _) (fun x hx => by simp at hx; subst hx; rfl) (by unfold maxLen; omega) (by omega) (by simp; omega) ?_; intro v' w3 hown' hgrow _; have HOW := Lib.hid hown'; have HGR := Lib.hid hgrow; clear hown' hgrow hbel))
              go_roundw
              case rel => exact ⟨k + 2, acc ++ [m.toUInt8], by rw [bytes_len]; omega, by simp; omega, by go_num, HM.out.grow _ _ (by rw [B_nat m hm256]; exact HOW.out) HGR.out, HF.out⟩
              case measure => simp [intOf]; omega
          · have t92 : ((cc.toNat : Int) == 92) = false := by simp; omega
            have hqq := q_plain cc (s.data.toList.drop (k + 1)) acc k c34 c32 c92
            rw [← hdr, ← HQ.out] at hqq
            have HF := Lib.hid hqq; clear hqq hdr c34 HQ c92
            obtain ⟨i0, hi, hz0, hz1, hz2⟩ := info_parts info_u8
            go_wp2_with (first
              | (at_builtin; refine wpList_append_own _ rfl _ _ 43 rfl (w.heap.size + 1) 5 i0 (.int .u8 0) 1 1 Tryz.underlying43 hi hz0 hz1 hz2 rfl (by decide) _ _ _ rfl (HM.out.own.alloc _) ⟨wr.heap.size, 0, none⟩ 1 1 [.int .u8 cc.toNat] rfl rfl (cell_one_new _ _ _) (fun x hx => by simp at hx; subst hx; rfl) (by unfold maxLen; omega) (by omega) (by simp; omega) ?_; intro v' w3 hown' hgrow _; have HOW := Lib.hid hown'; have HGR := Lib.hid hgrow; clear hown' hgrow hbel))
            go_roundw
            case rel => exact ⟨k + 1, acc ++ [cc], by rw [bytes_len]; omega, by simp; omega, by go_num, HM.out.grow _ _ HOW.out HGR.out, HF.out⟩
            case measure => simp [intOf]; omega
    · obtain rfl : k = s.size := by omega
      have hqq : quotW s.data.toList = bad 11 := by rw [HQ.out, ← bytes_len, List.drop_length]; rfl
      have HF := Lib.hid hqq; clear hqq HQ
      go_wp2
      refine bodyPost_ret (v := (bad 11).val) (by simp [results, Tryz.results122, go_sem, W.val, bad, q0, q1, q2, q3]) rfl ⟨by rw [HF.out], ?_⟩
      exact (((hbel.setCell (Nat.le_refl _) _).setCell (Nat.le_refl _) _).setCell (Nat.le_refl _) _).setCell (Nat.le_refl _) _
end Sc
end Go.Proofs.YtlfbcaenlifmkaaGreatDoor
