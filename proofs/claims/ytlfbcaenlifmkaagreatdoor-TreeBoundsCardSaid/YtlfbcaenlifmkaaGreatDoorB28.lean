/- word: what each call returns; nothing that was there turns. -/
import Derived.Test.YtlfbcaenlifmkaaGreatDoorB27
namespace Go.Proofs.YtlfbcaenlifmkaaGreatDoor
open Go.RowKit
namespace Sc
theorem name_any (s : ByteArray) (w : World) (hs : s.size ≤ 2000) :
    Calls Tryz.prog 128 #[.string s] w fun e w' => e = .returned (nameW s.data.toList).val ∧ Below w.heap.size w w' := by
  by_cases h : 16 < nsz s.data.toList
  · refine (name_long s w (by unfold maxLen; omega) h).mono ?_
    rintro e w' ⟨rfl, hb⟩
    exact ⟨by unfold nameW; rw [if_pos h]; rfl, hb⟩
  · refine (name_ok s w (by unfold maxLen; omega) (by omega)).mono ?_
    rintro e w' ⟨rfl, hb⟩
    refine ⟨?_, hb⟩
    unfold nameW; rw [if_neg h]
    have : s.extract 0 (nsz s.data.toList) = ⟨(s.data.toList.take (nsz s.data.toList)).toArray⟩ := by
      rw [← extract_take]
    rw [this]; rfl
set_option maxRecDepth 100000 in
set_option maxHeartbeats 4000000 in
theorem word_any (s : ByteArray) (w : World) (hs : s.size ≤ 2000) (h1 : 1 ≤ s.size) (hS : SignTab w) (hE : ErrTab w) :
    Calls Tryz.prog 83 #[.string s] w fun e w' => e = .returned (wordW s.data.toList).val ∧ Below w.heap.size w w' := by
  have hb := bytes_at s 0 h1
  have e1 : s.data.toList = s[0] :: s.data.toList.drop 1 := by rw [← hb]; exact drop_at s.data.toList 0 (lt_len h1)
  have hmax : s.size ≤ maxLen := by unfold maxLen; omega
  have cQ := quoted_any s
  have cS := sign_any s
  have cN := number_any s
  have cM := name_any s
  unfold W.val at cQ cS cN cM
  have cD := digit_any (s[0].toNat : Int)
  have cL := letter_any (s[0].toNat : Int)
  rw [digB_byte] at cD; rw [letB_byte] at cL
  have cZ := digitSize_any (s.extract 1 s.size)
  rw [drop_ext] at cZ
  have hzm : (s.extract 1 s.size).size ≤ maxLen := by rw [ByteArray.size_extract]; unfold maxLen; omega
  have hW : wordW s.data.toList = wordW (s[0] :: s.data.toList.drop 1) := by rw [← e1]
  rw [show wordW (s[0] :: s.data.toList.drop 1) = (if s[0].toNat = 34 then quotW (s[0] :: s.data.toList.drop 1) else if s[0].toNat = 45 then (if dsz (s.data.toList.drop 1) = 0 then signW (s[0] :: s.data.toList.drop 1) else numW (s[0] :: s.data.toList.drop 1))
    else if isD s[0] then numW (s[0] :: s.data.toList.drop 1) else if isL s[0] then nameW (s[0] :: s.data.toList.drop 1) else signW (s[0] :: s.data.toList.drop 1)) from rfl, ← e1] at hW
  clear e1 hb
  have HS := Lib.hid hS; have HE := Lib.hid hE; clear hS hE
  generalize dsz (s.data.toList.drop 1) = dz at *
  obtain ⟨c, hc⟩ : ∃ c, s[0] = c := ⟨_, rfl⟩
  rw [hc] at hW cD cL
  have HZ := Lib.hid cZ; clear cZ
  have hc0 : (c.toNat : Int) ≤ 255 := by have := c.toNat_lt; omega
  by_cases c34 : c.toNat = 34
  · rw [if_pos c34] at hW
    have HW := Lib.hid hW; clear hW
    have t34 : ((c.toNat : Int) == 34) = true := by simp [c34]
    clear c34
    go_enter Tryz.func83, Tryz.ntmps83
    generalize hr : quotW s.data.toList = r at *
    clear hr
    have HC := Lib.hid cQ; clear cQ cS cN cM
    go_wp2_with (first | (go_at_call 122; refine (HC.out _ hs h1).mono ?_; rintro e w1 ⟨rfl, hb0⟩; obtain ⟨⟨q0, q1, q2, q3⟩, ⟨z0, z1, z2, z3⟩, hlt, hb⟩ := four (by simpa using hb0); clear hb0))
    refine bodyPost_ret (v := W.val r) (by simp [results, Tryz.results83, go_sem, W.val, q0, q1, q2, q3]) rfl ⟨by rw [HW.out], ?_⟩
    exact (((hb.setCell (Nat.le_refl _) _).setCell (Nat.le_refl _) _).setCell (Nat.le_refl _) _).setCell (Nat.le_refl _) _
  · rw [if_neg c34] at hW
    have t34 : ((c.toNat : Int) == 34) = false := by simp; omega
    by_cases c45 : c.toNat = 45
    · rw [if_pos c45] at hW
      have t45 : ((c.toNat : Int) == 45) = true := by simp [c45]
      clear c34 c45
      by_cases hz : dz = 0
      · rw [if_pos hz] at hW
        have HW := Lib.hid hW; clear hW
        have tz : ((dz : Int) == 0) = true := by simp [hz]
        subst hz
        go_enter Tryz.func83, Tryz.ntmps83
        generalize hr : signW s.data.toList = r at *
        clear hr
        have HC := Lib.hid cS; clear cQ cS cN cM
        go_wp2_with (first | (go_at_call 123; refine (HZ.out _ hzm).mono ?_; rintro e w1 ⟨rfl, hb0⟩; obtain ⟨⟨q0, q1, q2, q3⟩, ⟨z0, z1, z2, z3⟩, hlt, hb⟩ := four (by simpa using hb0); clear hb0) | (go_at_call 124; refine (HC.out _ hmax (HS.out.below hb)).mono ?_; rintro e w2 ⟨rfl, hb1⟩; obtain ⟨q0, q1, q2, q3, z0, z1, z2, z3, hlt, hb⟩ := four_on hlt hb q0 q1 q2 q3 z0 z1 z2 z3 hb1; clear hb1))
        refine bodyPost_ret (v := W.val r) (by simp [results, Tryz.results83, go_sem, W.val, q0, q1, q2, q3]) rfl ⟨by rw [HW.out], ?_⟩
        exact (((hb.setCell (Nat.le_refl _) _).setCell (Nat.le_refl _) _).setCell (Nat.le_refl _) _).setCell (Nat.le_refl _) _
      · rw [if_neg hz] at hW
        have HW := Lib.hid hW; clear hW
        have tz : ((dz : Int) == 0) = false := by simp; omega
        go_enter Tryz.func83, Tryz.ntmps83
        generalize hr : numW s.data.toList = r at *
        clear hr
        have HC := Lib.hid cN; clear cQ cS cN cM
        go_wp2_with (first | (go_at_call 123; refine (HZ.out _ hzm).mono ?_; rintro e w1 ⟨rfl, hb0⟩; obtain ⟨⟨q0, q1, q2, q3⟩, ⟨z0, z1, z2, z3⟩, hlt, hb⟩ := four (by simpa using hb0); clear hb0) | (go_at_call 126; refine (HC.out _ (by omega) (HE.out.below hb)).mono ?_; rintro e w2 ⟨rfl, hb1⟩; obtain ⟨q0, q1, q2, q3, z0, z1, z2, z3, hlt, hb⟩ := four_on hlt hb q0 q1 q2 q3 z0 z1 z2 z3 hb1; clear hb1))
        refine bodyPost_ret (v := W.val r) (by simp [results, Tryz.results83, go_sem, W.val, q0, q1, q2, q3]) rfl ⟨by rw [HW.out], ?_⟩
        exact (((hb.setCell (Nat.le_refl _) _).setCell (Nat.le_refl _) _).setCell (Nat.le_refl _) _).setCell (Nat.le_refl _) _
    · rw [if_neg c45] at hW
      have t45 : ((c.toNat : Int) == 45) = false := by simp; omega
      clear c34 c45 HZ
      cases hD : isD c
      · rw [hD] at hW cD
        rw [if_neg (by simp)] at hW
        cases hL : isL c
        · rw [hL] at hW cL
          rw [if_neg (by simp)] at hW
          have HD := Lib.hid cD; have HL := Lib.hid cL; have HW := Lib.hid hW; clear hW cD cL hD hL
          go_enter Tryz.func83, Tryz.ntmps83
          generalize hr : signW s.data.toList = r at *
          clear hr
          have HC := Lib.hid cS; clear cQ cS cN cM
          go_wp2_with (first | (go_at_call 125; (with_reducible refine (HD.out _).mono ?_); rintro e w' ⟨rfl, rfl⟩) | (go_at_call 127; (with_reducible refine (HL.out _).mono ?_); rintro e w' ⟨rfl, rfl⟩) | (go_at_call 124; refine (HC.out _ hmax (HS.out.below ((Below.refl _ _).alloc (Nat.le_refl _) _))).mono ?_; rintro e w1 ⟨rfl, hb0⟩; obtain ⟨⟨q0, q1, q2, q3⟩, ⟨z0, z1, z2, z3⟩, hlt, hb⟩ := four (by simpa using hb0); clear hb0))
          refine bodyPost_ret (v := W.val r) (by simp [results, Tryz.results83, go_sem, W.val, q0, q1, q2, q3]) rfl ⟨by rw [HW.out], ?_⟩
          exact (((hb.setCell (Nat.le_refl _) _).setCell (Nat.le_refl _) _).setCell (Nat.le_refl _) _).setCell (Nat.le_refl _) _
        · rw [hL] at hW cL
          rw [if_pos rfl] at hW
          have HD := Lib.hid cD; have HL := Lib.hid cL; have HW := Lib.hid hW; clear hW cD cL hD hL
          go_enter Tryz.func83, Tryz.ntmps83
          generalize hr : nameW s.data.toList = r at *
          clear hr
          have HC := Lib.hid cM; clear cQ cS cN cM
          go_wp2_with (first | (go_at_call 125; (with_reducible refine (HD.out _).mono ?_); rintro e w' ⟨rfl, rfl⟩) | (go_at_call 127; (with_reducible refine (HL.out _).mono ?_); rintro e w' ⟨rfl, rfl⟩) | (go_at_call 128; refine (HC.out _ hs).mono ?_; rintro e w1 ⟨rfl, hb0⟩; obtain ⟨⟨q0, q1, q2, q3⟩, ⟨z0, z1, z2, z3⟩, hlt, hb⟩ := four (by simpa using hb0); clear hb0))
          refine bodyPost_ret (v := W.val r) (by simp [results, Tryz.results83, go_sem, W.val, q0, q1, q2, q3]) rfl ⟨by rw [HW.out], ?_⟩
          exact (((hb.setCell (Nat.le_refl _) _).setCell (Nat.le_refl _) _).setCell (Nat.le_refl _) _).setCell (Nat.le_refl _) _
      · rw [hD] at hW cD
        rw [if_pos rfl] at hW
        have HD := Lib.hid cD; have HW := Lib.hid hW; clear hW cD cL hD
        go_enter Tryz.func83, Tryz.ntmps83
        generalize hr : numW s.data.toList = r at *
        clear hr
        have HC := Lib.hid cN; clear cQ cS cN cM
        go_wp2_with (first | (go_at_call 125; (with_reducible refine (HD.out _).mono ?_); rintro e w' ⟨rfl, rfl⟩) | (go_at_call 126; refine (HC.out _ (by omega) (HE.out.below ((Below.refl _ _).alloc (Nat.le_refl _) _))).mono ?_; rintro e w1 ⟨rfl, hb0⟩; obtain ⟨⟨q0, q1, q2, q3⟩, ⟨z0, z1, z2, z3⟩, hlt, hb⟩ := four (by simpa using hb0); clear hb0))
        refine bodyPost_ret (v := W.val r) (by simp [results, Tryz.results83, go_sem, W.val, q0, q1, q2, q3]) rfl ⟨by rw [HW.out], ?_⟩
        exact (((hb.setCell (Nat.le_refl _) _).setCell (Nat.le_refl _) _).setCell (Nat.le_refl _) _).setCell (Nat.le_refl _) _
end Sc
end Go.Proofs.YtlfbcaenlifmkaaGreatDoor
