/- blankSize, name, meant, sign: what each call returns; nothing that was there turns. -/
import Derived.Test.YtlfbcaenlifmkaaGreatDoorB22
import Derived.Test.YtlfbcaenlifmkaaGreatDoorB23
import Derived.Lib.IndexBytes
namespace Go.Proofs.YtlfbcaenlifmkaaGreatDoor
open Go.RowKit
namespace Sc
theorem isB_cut (c : UInt8) : List.contains [32, 9, 10, 13] c = isB c := by
  unfold isB
  simp only [List.contains_cons, List.contains_nil, Bool.or_false, Bool.or_assoc]
  have h : ∀ n : UInt8, (c == n) = decide (c.toNat = n.toNat) := fun n => by
    rw [Bool.eq_iff_iff]; simp [UInt8.toNat_inj]
  rw [h, h, h, h]; rfl
theorem trim_eq (l : List UInt8) : Lib.trimLeftS l [32, 9, 10, 13] = l.drop (bsz l) := by
  rw [bsz_drop]
  unfold Lib.trimLeftS
  congr 1
  funext c
  exact isB_cut c
theorem h116 : (Tryz.prog.info? 206).map (fun i => (i.zero, i.size)) = some (some (.agg (Array.replicate 256 (.bool false))), 256) := by kernel_rfl
theorem TrimLeft_b (s : ByteArray) (w : World) :
    Calls Tryz.prog 121 #[.string s, .string ⟨#[32, 9, 10, 13]⟩] w fun e w' => e = .returned (.string ⟨(s.data.toList.drop (bsz s.data.toList)).toArray⟩) ∧ Below w.heap.size w w' := by
  have h := Any.strings_TrimLeft_laid Tryz.lays161 h116 s ⟨#[32, 9, 10, 13]⟩ w (by decide) (ascii_of_all (by decide))
  rw [show (⟨#[32, 9, 10, 13]⟩ : ByteArray).data.toList = [32, 9, 10, 13] from rfl, trim_eq] at h
  exact h
theorem size_mk (l : List UInt8) : (⟨l.toArray⟩ : ByteArray).size = l.length := rfl
set_option maxHeartbeats 400000 in
theorem blankSize_any (s : ByteArray) (w : World) (hs : s.size ≤ maxLen) :
    Calls Tryz.prog 82 #[.string s] w fun e w' => e = .returned (.int .i64 (bsz s.data.toList)) ∧ Below w.heap.size w w' := by
  unfold maxLen at hs
  have hle := bsz_le s.data.toList
  rw [bytes_len] at hle
  have hsz : (⟨(s.data.toList.drop (bsz s.data.toList)).toArray⟩ : ByteArray).size = s.size - bsz s.data.toList := by
    rw [size_mk, List.length_drop, bytes_len]
  have C := TrimLeft_b s
  generalize (⟨(s.data.toList.drop (bsz s.data.toList)).toArray⟩ : ByteArray) = t at *
  generalize bsz s.data.toList = k at *
  have HZ := Lib.hid hsz; clear hsz
  have HC := Lib.hid C; clear C
  have hts : t.size ≤ 9223372036854775807 := by rw [HZ.out]; omega
  go_enter Tryz.func82, Tryz.ntmps82
  go_wp2_with (go_at_call 121; refine (HC.out _).mono ?_; rintro e w1 ⟨rfl, hb⟩)
  go_ret
  refine ⟨?_, by assumption⟩
  exact ret_int (by rw [HZ.out]; omega)
/-- A struct of four cells that the call laid, behind a call that left it alone. -/
theorem four {w w1 : World} {t : TypeId} {v0 v1 v2 v3 : Value} (hb : Below (w.heap.size + 1) (w.alloc (.cells #[v0, v1, v2, v3] t)) w1) :
    (w1.cell? ⟨w.heap.size, 0, none⟩ = some v0 ∧ w1.cell? ⟨w.heap.size, 1, none⟩ = some v1 ∧ w1.cell? ⟨w.heap.size, 2, none⟩ = some v2 ∧ w1.cell? ⟨w.heap.size, 3, none⟩ = some v3) ∧
    (w1.frozen? ⟨w.heap.size, 0, none⟩ = false ∧ w1.frozen? ⟨w.heap.size, 1, none⟩ = false ∧ w1.frozen? ⟨w.heap.size, 2, none⟩ = false ∧ w1.frozen? ⟨w.heap.size, 3, none⟩ = false) ∧
    w.heap.size < w1.heap.size ∧ Below w.heap.size w w1 := by
  refine ⟨⟨?_, ?_, ?_, ?_⟩, ⟨?_, ?_, ?_, ?_⟩, ?_, ?_⟩
  · exact (hb.cell (p := ⟨w.heap.size, 0, none⟩) (by simp)).trans (by simp)
  · exact (hb.cell (p := ⟨w.heap.size, 1, none⟩) (by simp)).trans (by simp)
  · exact (hb.cell (p := ⟨w.heap.size, 2, none⟩) (by simp)).trans (by simp)
  · exact (hb.cell (p := ⟨w.heap.size, 3, none⟩) (by simp)).trans (by simp)
  · exact (hb.frozen (p := ⟨w.heap.size, 0, none⟩) (by simp)).trans (by simp)
  · exact (hb.frozen (p := ⟨w.heap.size, 1, none⟩) (by simp)).trans (by simp)
  · exact (hb.frozen (p := ⟨w.heap.size, 2, none⟩) (by simp)).trans (by simp)
  · exact (hb.frozen (p := ⟨w.heap.size, 3, none⟩) (by simp)).trans (by simp)
  · have := hb.size; simp at this; omega
  · exact ((Below.refl _ w).alloc (Nat.le_refl _) _).trans (hb.mono (by omega))
/-- .. and behind a further call. -/
theorem four_on {w w1 w2 : World} {b : Nat} {v0 v1 v2 v3 : Value} (hlt : b < w1.heap.size) (hb : Below b w w1) (q0 : w1.cell? ⟨b, 0, none⟩ = some v0) (q1 : w1.cell? ⟨b, 1, none⟩ = some v1) (q2 : w1.cell? ⟨b, 2, none⟩ = some v2) (q3 : w1.cell? ⟨b, 3, none⟩ = some v3)
    (z0 : w1.frozen? ⟨b, 0, none⟩ = false) (z1 : w1.frozen? ⟨b, 1, none⟩ = false) (z2 : w1.frozen? ⟨b, 2, none⟩ = false) (z3 : w1.frozen? ⟨b, 3, none⟩ = false) (h2 : Below w1.heap.size w1 w2) :
    w2.cell? ⟨b, 0, none⟩ = some v0 ∧ w2.cell? ⟨b, 1, none⟩ = some v1 ∧ w2.cell? ⟨b, 2, none⟩ = some v2 ∧ w2.cell? ⟨b, 3, none⟩ = some v3 ∧
    w2.frozen? ⟨b, 0, none⟩ = false ∧ w2.frozen? ⟨b, 1, none⟩ = false ∧ w2.frozen? ⟨b, 2, none⟩ = false ∧ w2.frozen? ⟨b, 3, none⟩ = false ∧ b < w2.heap.size ∧ Below b w w2 := by
  refine ⟨?_, ?_, ?_, ?_, ?_, ?_, ?_, ?_, ?_, hb.trans (h2.mono (Nat.le_of_lt hlt))⟩
  · exact (h2.cell (p := ⟨b, 0, none⟩) hlt).trans q0
  · exact (h2.cell (p := ⟨b, 1, none⟩) hlt).trans q1
  · exact (h2.cell (p := ⟨b, 2, none⟩) hlt).trans q2
  · exact (h2.cell (p := ⟨b, 3, none⟩) hlt).trans q3
  · exact (h2.frozen (p := ⟨b, 0, none⟩) hlt).trans z0
  · exact (h2.frozen (p := ⟨b, 1, none⟩) hlt).trans z1
  · exact (h2.frozen (p := ⟨b, 2, none⟩) hlt).trans z2
  · exact (h2.frozen (p := ⟨b, 3, none⟩) hlt).trans z3
  · have := h2.size; omega
set_option maxHeartbeats 400000 in
theorem Clone_any (s : ByteArray) (w : World) (hs : s.size ≤ 281474976710656) :
    Calls Tryz.prog 101 #[.string s] w fun e w' => e = .returned (.string s) ∧ Below w.heap.size w w' := by
  have HK := Tryz.stringslite_Clone s
  go_enter Tryz.func101, Tryz.ntmps101
  go_wp2_with (go_at_call 142; refine (HK _ hs).mono ?_; rintro e w1 ⟨rfl, hb⟩)
  go_ret
  exact ⟨rfl, by assumption⟩
set_option maxHeartbeats 400000 in
/-- name, too long. -/
theorem name_long (s : ByteArray) (w : World) (hs : s.size ≤ maxLen) (h : 16 < nsz s.data.toList) :
    Calls Tryz.prog 128 #[.string s] w fun e w' => e = .returned (.tuple #[.agg #[.int .i64 0, .string ⟨#[]⟩, .int .i64 0, .int .i64 0], .int .i64 0, .int .i64 4]) ∧ Below w.heap.size w w' := by
  have C := nameSize_any s
  have hle := nsz_le s.data.toList
  rw [bytes_len] at hle
  generalize nsz s.data.toList = k at *
  have HC := Lib.hid C; clear C
  have hs' := hs
  unfold maxLen at hs'
  go_enter Tryz.func128, Tryz.ntmps128
  go_wp2_with (go_at_call 156; refine (HC.out _ hs).mono ?_; rintro e w1 ⟨rfl, hb0⟩; obtain ⟨⟨q0, q1, q2, q3⟩, ⟨z0, z1, z2, z3⟩, hlt, hb⟩ := four (by simpa using hb0); clear hb0)
  refine bodyPost_ret (v := .tuple #[.agg #[.int .i64 0, .string ⟨#[]⟩, .int .i64 0, .int .i64 0], .int .i64 0, .int .i64 4]) (by simp [results, Tryz.results128, go_sem, q0, q1, q2, q3]) rfl ⟨rfl, ?_⟩
  exact (((hb.setCell (Nat.le_refl _) _).setCell (Nat.le_refl _) _).setCell (Nat.le_refl _) _).setCell (Nat.le_refl _) _
set_option maxHeartbeats 400000 in
/-- name, as long as may be. -/
theorem name_ok (s : ByteArray) (w : World) (hs : s.size ≤ maxLen) (h : nsz s.data.toList ≤ 16) :
    Calls Tryz.prog 128 #[.string s] w fun e w' => e = .returned (.tuple #[.agg #[.int .i64 1, .string (s.extract 0 (nsz s.data.toList)), .int .i64 0, .int .i64 0], .int .i64 (nsz s.data.toList), .int .i64 0]) ∧ Below w.heap.size w w' := by
  have C := nameSize_any s
  have hle := nsz_le s.data.toList
  rw [bytes_len] at hle
  generalize nsz s.data.toList = k at *
  have HC := Lib.hid C; clear C
  have hs' := hs
  unfold maxLen at hs'
  have hsz : (s.extract 0 k).size ≤ 281474976710656 := by rw [ByteArray.size_extract]; omega
  have HK := Lib.hid (fun w => Clone_any (s.extract 0 k) w hsz)
  clear hsz
  go_enter Tryz.func128, Tryz.ntmps128
  go_wp2_with (first | (go_at_call 156; refine (HC.out _ hs).mono ?_; rintro e w1 ⟨rfl, hb0⟩; obtain ⟨⟨q0, q1, q2, q3⟩, ⟨z0, z1, z2, z3⟩, hlt, hb⟩ := four (by simpa using hb0); clear hb0) | (go_at_call 101; refine (HK.out _).mono ?_; rintro e w2 ⟨rfl, hb1⟩; obtain ⟨q0, q1, q2, q3, z0, z1, z2, z3, hlt, hb⟩ := four_on hlt hb q0 q1 q2 q3 z0 z1 z2 z3 hb1; clear hb1))
  refine bodyPost_ret (v := .tuple #[.agg #[.int .i64 1, .string (s.extract 0 k), .int .i64 0, .int .i64 0], .int .i64 k, .int .i64 0]) (by simp [results, Tryz.results128, go_sem, q0, q1, q2, q3]) rfl ⟨rfl, ?_⟩
  exact (((hb.setCell (Nat.le_refl _) _).setCell (Nat.le_refl _) _).setCell (Nat.le_refl _) _).setCell (Nat.le_refl _) _
end Sc
end Go.Proofs.YtlfbcaenlifmkaaGreatDoor
