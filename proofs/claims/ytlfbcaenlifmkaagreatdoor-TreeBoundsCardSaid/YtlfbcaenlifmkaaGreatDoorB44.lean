/- textSize and part of package text, end of package sprueref2, both Place: what each call returns; nothing that was there turns. -/
import Derived.Test.YtlfbcaenlifmkaaGreatDoorB43
namespace Go.Proofs.YtlfbcaenlifmkaaGreatDoor
open Go.RowKit
namespace Tx
/-- What the search leans on: a package variable of the library holds some integer. -/
def MaxTab (w : World) : Prop := 2 < w.heap.size ∧ ∃ m : Int, w.cell? ⟨2, 0, none⟩ = some (.int .i64 m)
theorem MaxTab.below {w w' : World} (h : MaxTab w) (hb : Below w.heap.size w w') : MaxTab w' :=
  ⟨Nat.lt_of_lt_of_le h.1 hb.size, h.2.elim fun m e => ⟨m, (hb.cell (p := ⟨_, 0, none⟩) h.1).trans e⟩⟩
theorem Index_any (s : ByteArray) (w : World) (hs : s.size ≤ 4000) (hM : MaxTab w) :
    Calls Tryz.prog 141 #[.string s, .string ⟨#[123, 123]⟩] w fun e w' => e = .returned (.int .i64 (if idx2 s.data.toList = s.size then -1 else (idx2 s.data.toList : Int))) ∧ w = w' := by
  obtain ⟨_, m, hm⟩ := hM
  refine (Tryz.strings_Index s ⟨#[123, 123]⟩ m w (by omega) hm).mono ?_
  rintro e w' ⟨rfl, rfl⟩
  exact ⟨by rw [show (⟨#[123, 123]⟩ : ByteArray).data.toList = [123, 123] from rfl, index_idx, bytes_len], rfl⟩
set_option maxHeartbeats 400000 in
theorem textSize_any (s : ByteArray) (w : World) (hs : s.size ≤ 4000) (hM : MaxTab w) :
    Calls Tryz.prog 100 #[.string s] w fun e w' => e = .returned (.int .i64 (idx2 s.data.toList)) ∧ w = w' := by
  have cI := Index_any s w hs hM
  have hle := idx_le s.data.toList
  rw [bytes_len] at hle
  generalize idx2 s.data.toList = n at *
  by_cases h : n = s.size
  · rw [if_pos h] at cI
    have HC := Lib.hid cI
    subst h
    clear cI
    go_enter Tryz.func100, Tryz.ntmps100
    go_wp2_with (go_at_call 141; (with_reducible refine HC.out.mono ?_); rintro e w' ⟨rfl, rfl⟩)
    go_ret
    exact ⟨rfl, rfl⟩
  · rw [if_neg h] at cI
    have HC := Lib.hid cI
    clear cI h
    go_enter Tryz.func100, Tryz.ntmps100
    go_wp2_with (go_at_call 141; (with_reducible refine HC.out.mono ?_); rintro e w' ⟨rfl, rfl⟩)
    go_ret
    exact ⟨rfl, rfl⟩
theorem Cut_no (s : ByteArray) (h : two 123 s.data.toList = false) (w : World) :
    Calls Tryz.prog 99 #[.string s, .string ⟨#[123, 123]⟩] w fun e w' => e = .returned (.tuple #[.string s, .bool false]) ∧ w = w' := by
  refine (Tryz.strings_CutPrefix s ⟨#[123, 123]⟩ w).mono ?_
  rintro e w' ⟨rfl, rfl⟩
  refine ⟨?_, rfl⟩
  rw [show (⟨#[123, 123]⟩ : ByteArray).data.toList = [123, 123] from rfl]
  unfold Lib.trimPrefix
  rw [hasP 123, show (123 : UInt8).toNat = 123 from rfl, h]
  rfl
theorem Cut_yes (s : ByteArray) (h : two 123 s.data.toList = true) (w : World) :
    Calls Tryz.prog 99 #[.string s, .string ⟨#[123, 123]⟩] w fun e w' => e = .returned (.tuple #[.string ⟨(s.data.toList.drop 2).toArray⟩, .bool true]) ∧ w = w' := by
  refine (Tryz.strings_CutPrefix s ⟨#[123, 123]⟩ w).mono ?_
  rintro e w' ⟨rfl, rfl⟩
  refine ⟨?_, rfl⟩
  rw [show (⟨#[123, 123]⟩ : ByteArray).data.toList = [123, 123] from rfl]
  unfold Lib.trimPrefix
  rw [hasP 123, show (123 : UInt8).toNat = 123 from rfl, h]
  rfl
set_option maxHeartbeats 400000 in
theorem Clone_any (s : ByteArray) (w : World) (hs : s.size ≤ 281474976710656) :
    Calls Tryz.prog 101 #[.string s] w fun e w' => e = .returned (.string s) ∧ Below w.heap.size w w' := by
  have HK := Tryz.stringslite_Clone s
  go_enter Tryz.func101, Tryz.ntmps101
  go_wp2_with (go_at_call 142; refine (HK _ hs).mono ?_; rintro e w1 ⟨rfl, hb⟩)
  go_ret
  exact ⟨rfl, by assumption⟩
/-- A struct of three cells that the call laid, behind a call that left it alone. -/
theorem three {w w1 : World} {t : TypeId} {v0 v1 v2 : Value} (hb : Below (w.heap.size + 1) (w.alloc (.cells #[v0, v1, v2] t)) w1) :
    (w1.cell? ⟨w.heap.size, 0, none⟩ = some v0 ∧ w1.cell? ⟨w.heap.size, 1, none⟩ = some v1 ∧ w1.cell? ⟨w.heap.size, 2, none⟩ = some v2) ∧
    (w1.frozen? ⟨w.heap.size, 0, none⟩ = false ∧ w1.frozen? ⟨w.heap.size, 1, none⟩ = false ∧ w1.frozen? ⟨w.heap.size, 2, none⟩ = false) ∧
    w.heap.size < w1.heap.size ∧ Below w.heap.size w w1 := by
  refine ⟨⟨?_, ?_, ?_⟩, ⟨?_, ?_, ?_⟩, ?_, ?_⟩
  · exact (hb.cell (p := ⟨w.heap.size, 0, none⟩) (by simp)).trans (by simp)
  · exact (hb.cell (p := ⟨w.heap.size, 1, none⟩) (by simp)).trans (by simp)
  · exact (hb.cell (p := ⟨w.heap.size, 2, none⟩) (by simp)).trans (by simp)
  · exact (hb.frozen (p := ⟨w.heap.size, 0, none⟩) (by simp)).trans (by simp)
  · exact (hb.frozen (p := ⟨w.heap.size, 1, none⟩) (by simp)).trans (by simp)
  · exact (hb.frozen (p := ⟨w.heap.size, 2, none⟩) (by simp)).trans (by simp)
  · have := hb.size; simp at this; omega
  · exact ((Below.refl _ w).alloc (Nat.le_refl _) _).trans (hb.mono (by omega))
/-- .. and behind a further call. -/
theorem three_on {w w1 w2 : World} {b : Nat} {v0 v1 v2 : Value} (hlt : b < w1.heap.size) (hb : Below b w w1) (q0 : w1.cell? ⟨b, 0, none⟩ = some v0) (q1 : w1.cell? ⟨b, 1, none⟩ = some v1) (q2 : w1.cell? ⟨b, 2, none⟩ = some v2)
    (z0 : w1.frozen? ⟨b, 0, none⟩ = false) (z1 : w1.frozen? ⟨b, 1, none⟩ = false) (z2 : w1.frozen? ⟨b, 2, none⟩ = false) (h2 : Below w1.heap.size w1 w2) :
    w2.cell? ⟨b, 0, none⟩ = some v0 ∧ w2.cell? ⟨b, 1, none⟩ = some v1 ∧ w2.cell? ⟨b, 2, none⟩ = some v2 ∧
    w2.frozen? ⟨b, 0, none⟩ = false ∧ w2.frozen? ⟨b, 1, none⟩ = false ∧ w2.frozen? ⟨b, 2, none⟩ = false ∧ b < w2.heap.size ∧ Below b w w2 := by
  refine ⟨?_, ?_, ?_, ?_, ?_, ?_, ?_, hb.trans (h2.mono (Nat.le_of_lt hlt))⟩
  · exact (h2.cell (p := ⟨b, 0, none⟩) hlt).trans q0
  · exact (h2.cell (p := ⟨b, 1, none⟩) hlt).trans q1
  · exact (h2.cell (p := ⟨b, 2, none⟩) hlt).trans q2
  · exact (h2.frozen (p := ⟨b, 0, none⟩) hlt).trans z0
  · exact (h2.frozen (p := ⟨b, 1, none⟩) hlt).trans z1
  · exact (h2.frozen (p := ⟨b, 2, none⟩) hlt).trans z2
  · have := h2.size; omega
/-- What part answers. -/
def partV : Option (Bool × List UInt8 × Nat) → Value
  | none => .tuple #[.agg #[.bool false, .string ⟨#[]⟩, .int .i64 0], .int .i64 0, .int .i64 11]
  | some (a, x, n) => .tuple #[.agg #[.bool a, .string ⟨x.toArray⟩, .int .i64 0], .int .i64 n, .int .i64 0]
theorem extract_take (s : ByteArray) (k : Nat) : s.extract 0 k = ⟨(s.data.toList.take k).toArray⟩ := by
  apply ByteArray.ext
  apply Array.ext'
  simp [ByteArray.data_extract]
theorem partL_none (l : List UInt8) (h : two 123 l = true) (hi : insF false false (l.drop 2) = none) : partL l = none := by
  unfold partL; rw [if_pos h, hi]
theorem partL_some (l : List UInt8) (h : two 123 l = true) (n : Nat) (hi : insF false false (l.drop 2) = some n) : partL l = some (true, (l.drop 2).take n, n + 4) := by
  unfold partL; rw [if_pos h, hi]
set_option maxHeartbeats 800000 in
theorem part_text (s : ByteArray) (w : World) (hs : s.size ≤ 4000) (hM : MaxTab w) (h : two 123 s.data.toList = false) :
    Calls Tryz.prog 65 #[.string s] w fun e w' => e = .returned (partV (partL s.data.toList)) ∧ Below w.heap.size w w' := by
  have hp : partL s.data.toList = some (false, s.data.toList.take (idx2 s.data.toList), idx2 s.data.toList) := by
    unfold partL; rw [if_neg (by rw [h]; simp)]
  have cC := Cut_no s h
  have cT := fun w hM => textSize_any s w hs hM
  have hle := idx_le s.data.toList
  rw [bytes_len] at hle
  have hK := fun w => Clone_any (s.extract 0 (idx2 s.data.toList)) w (by rw [ByteArray.size_extract]; omega)
  rw [hp]
  unfold partV
  simp only []
  rw [← extract_take]
  generalize idx2 s.data.toList = k at *
  have HC := Lib.hid cC; have HT := Lib.hid cT; have HK := Lib.hid hK; have HM := Lib.hid hM
  clear cC cT hK hM hp h
  go_enter Tryz.func65, Tryz.ntmps65
  go_wp2_with (first
    | (go_at_call 99; (with_reducible refine (HC.out _).mono ?_); rintro e w' ⟨rfl, rfl⟩)
    | (go_at_call 100; (with_reducible refine (HT.out _ (HM.out.below ((Below.refl _ _).alloc (Nat.le_refl _) _))).mono ?_); rintro e w' ⟨rfl, rfl⟩)
    | (go_at_call 101; (with_reducible refine (HK.out _).mono ?_); rintro e w1 ⟨rfl, hb0⟩; obtain ⟨⟨q0, q1, q2⟩, ⟨z0, z1, z2⟩, hlt, hb⟩ := three (by simpa using hb0); clear hb0))
  refine bodyPost_ret (v := .tuple #[.agg #[.bool false, .string (s.extract 0 k), .int .i64 0], .int .i64 k, .int .i64 0]) (by simp [results, Tryz.results65, go_sem, q0, q1, q2]) rfl ⟨rfl, ?_⟩
  exact ((hb.setCell (Nat.le_refl _) _).setCell (Nat.le_refl _) _).setCell (Nat.le_refl _) _
set_option maxHeartbeats 800000 in
theorem part_act (s : ByteArray) (w : World) (hs : s.size ≤ 4000) (h : two 123 s.data.toList = true) :
    Calls Tryz.prog 65 #[.string s] w fun e w' => e = .returned (partV (partL s.data.toList)) ∧ Below w.heap.size w w' := by
  have cC := Cut_yes s h
  have hus : (⟨(s.data.toList.drop 2).toArray⟩ : ByteArray).size = s.size - 2 := by
    show (s.data.toList.drop 2).length = _; rw [List.length_drop, bytes_len]
  have cI := fun w => insideSize_any ⟨(s.data.toList.drop 2).toArray⟩ w
  rw [show (⟨(s.data.toList.drop 2).toArray⟩ : ByteArray).data.toList = s.data.toList.drop 2 from rfl] at cI
  cases hi : insF false false (s.data.toList.drop 2) with
  | none =>
    have hp := partL_none _ h hi
    rw [hi] at cI
    rw [hp]
    generalize (⟨(s.data.toList.drop 2).toArray⟩ : ByteArray) = us at *
    unfold insV at cI
    have HC := Lib.hid cC; have HI := Lib.hid cI
    clear cC cI hp h hi hus
    go_enter Tryz.func65, Tryz.ntmps65
    go_wp2_with (first
      | (go_at_call 99; (with_reducible refine (HC.out _).mono ?_); rintro e w' ⟨rfl, rfl⟩)
      | (go_at_call 102; (with_reducible refine (HI.out _).mono ?_); rintro e w1 ⟨rfl, hb0⟩; obtain ⟨⟨q0, q1, q2⟩, ⟨z0, z1, z2⟩, hlt, hb⟩ := three (by simpa using hb0); clear hb0))
    refine bodyPost_ret (v := .tuple #[.agg #[.bool false, .string ⟨#[]⟩, .int .i64 0], .int .i64 0, .int .i64 11]) (by simp [results, Tryz.results65, go_sem, q0, q1, q2]) rfl ⟨rfl, ?_⟩
    exact ((hb.setCell (Nat.le_refl _) _).setCell (Nat.le_refl _) _).setCell (Nat.le_refl _) _
  | some n =>
    have hp := partL_some _ h n hi
    rw [hi] at cI
    have hlt := ins_lt _ _ _ _ hi
    rw [List.length_drop, bytes_len] at hlt
    rw [hp]
    obtain ⟨us, hu⟩ : ∃ us : ByteArray, us = ⟨(s.data.toList.drop 2).toArray⟩ := ⟨_, rfl⟩
    have hul : us.data.toList = s.data.toList.drop 2 := by rw [hu]
    rw [← hu] at cC cI hus
    unfold partV
    simp only []
    rw [← hul, ← extract_take]
    have hn : n ≤ us.size := by omega
    have hu4 : us.size ≤ 4000 := by omega
    have hK := fun w => Clone_any (us.extract 0 n) w (by rw [ByteArray.size_extract]; omega)
    unfold insV at cI
    have HC := Lib.hid cC; have HI := Lib.hid cI; have HK := Lib.hid hK
    clear cC cI hp h hi hus hK hul hu
    have hn4 : (n : Int) ≤ 4000 := by omega
    go_enter Tryz.func65, Tryz.ntmps65
    go_wp2_with (first
      | (go_at_call 99; (with_reducible refine (HC.out _).mono ?_); rintro e w' ⟨rfl, rfl⟩)
      | (go_at_call 102; (with_reducible refine (HI.out _).mono ?_); rintro e w1 ⟨rfl, hb0⟩; obtain ⟨⟨q0, q1, q2⟩, ⟨z0, z1, z2⟩, hlt, hb⟩ := three (by simpa using hb0); clear hb0)
      | (go_at_call 101; (with_reducible refine (HK.out _).mono ?_); rintro e w2 ⟨rfl, hb1⟩; obtain ⟨q0, q1, q2, z0, z1, z2, hlt, hb⟩ := three_on hlt hb q0 q1 q2 z0 z1 z2 hb1; clear hb1))
    refine bodyPost_ret (v := .tuple #[.agg #[.bool true, .string (us.extract 0 n), .int .i64 0], .int .i64 (2 + n + 2), .int .i64 0]) (by simp [results, Tryz.results65, go_sem, q0, q1, q2]) rfl ⟨?_, ?_⟩
    · rw [show ((n + 4 : Nat) : Int) = 2 + (n : Int) + 2 by omega]
    · exact ((hb.setCell (Nat.le_refl _) _).setCell (Nat.le_refl _) _).setCell (Nat.le_refl _) _
theorem part_any (s : ByteArray) (w : World) (hs : s.size ≤ 4000) (hM : MaxTab w) :
    Calls Tryz.prog 65 #[.string s] w fun e w' => e = .returned (partV (partL s.data.toList)) ∧ Below w.heap.size w w' := by
  cases h : two 123 s.data.toList with
  | false => exact part_text s w hs hM h
  | true => exact part_act s w hs h
end Tx
end Go.Proofs.YtlfbcaenlifmkaaGreatDoor
