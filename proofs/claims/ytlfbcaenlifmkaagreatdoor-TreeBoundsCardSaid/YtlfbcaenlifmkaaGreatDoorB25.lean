/- meant, sign: what each call returns; nothing that was there turns. -/
import Derived.Test.YtlfbcaenlifmkaaGreatDoorB24
namespace Go.Proofs.YtlfbcaenlifmkaaGreatDoor
open Go.RowKit
namespace Sc
set_option maxHeartbeats 400000 in
theorem meant_any (s : ByteArray) (w : World) (hs : s.size ≤ maxLen) :
    Calls Tryz.prog 161 #[.string s] w fun e w' => e = .returned (.int .u8 (meantL s.data.toList)) ∧ w = w' := by
  unfold maxLen at hs
  have he := toList_isEmpty s
  by_cases h0 : 0 < s.size
  · have hb := bytes_at s 0 h0
    have e1 : s.data.toList = s[0] :: s.data.toList.drop 1 := by rw [← hb]; exact drop_at s.data.toList 0 (lt_len h0)
    rw [e1, show meantL (s[0] :: s.data.toList.drop 1) = meantB s[0] from rfl]
    clear e1 hb
    rw [show decide (s.size = 0) = false from decide_eq_false (by omega)] at he
    generalize hc : s[0] = c
    go_enter Tryz.func161, Tryz.ntmps161
    go_wp2
    all_goals
      go_ret
      refine ⟨ret_int ?_, rfl⟩
      simp only [beq_iff_eq, beq_eq_false_iff_ne, ne_eq] at *
      unfold meantB
      repeat' split
    all_goals omega
  · have e1 : s.data.toList = [] := List.eq_nil_of_length_eq_zero (by rw [bytes_len]; omega)
    rw [e1, show meantL [] = 0 from rfl]
    rw [show decide (s.size = 0) = true from decide_eq_true (by omega)] at he
    clear e1
    go_enter Tryz.func161, Tryz.ntmps161
    go_wp2
    go_ret
    exact ⟨rfl, rfl⟩
def sg (k : Nat) : ByteArray := ⟨(signs.getD k []).toArray⟩
def sgs : Array Value := #[.string (sg 0), .string (sg 1), .string (sg 2), .string (sg 3), .string (sg 4), .string (sg 5), .string (sg 6), .string (sg 7), .string (sg 8), .string (sg 9), .string (sg 10), .string (sg 11), .string (sg 12), .string (sg 13), .string (sg 14)]
/-- The table of signs, in memory. -/
def SignTab (w : World) : Prop := 0 < w.heap.size ∧ ∃ t fr, w.heap[0]? = some (.cells sgs t fr)
theorem SignTab.below {w w' : World} (h : SignTab w) (hb : Below w.heap.size w w') : SignTab w' :=
  ⟨Nat.lt_of_lt_of_le h.1 hb.size, h.2.elim fun t ⟨fr, e⟩ => ⟨t, fr, (hb.block _ h.1).trans e⟩⟩
theorem sign_at0 (w : World) : (Instr.index 217 (.agg sgs) (.int .i64 0)).run Tryz.prog w = .ok (.string (sg 0)) w := by kernel_rfl
theorem sign_at1 (w : World) : (Instr.index 217 (.agg sgs) (.int .i64 1)).run Tryz.prog w = .ok (.string (sg 1)) w := by kernel_rfl
theorem sign_at2 (w : World) : (Instr.index 217 (.agg sgs) (.int .i64 2)).run Tryz.prog w = .ok (.string (sg 2)) w := by kernel_rfl
theorem sign_at3 (w : World) : (Instr.index 217 (.agg sgs) (.int .i64 3)).run Tryz.prog w = .ok (.string (sg 3)) w := by kernel_rfl
theorem sign_at4 (w : World) : (Instr.index 217 (.agg sgs) (.int .i64 4)).run Tryz.prog w = .ok (.string (sg 4)) w := by kernel_rfl
theorem sign_at5 (w : World) : (Instr.index 217 (.agg sgs) (.int .i64 5)).run Tryz.prog w = .ok (.string (sg 5)) w := by kernel_rfl
theorem sign_at6 (w : World) : (Instr.index 217 (.agg sgs) (.int .i64 6)).run Tryz.prog w = .ok (.string (sg 6)) w := by kernel_rfl
theorem sign_at7 (w : World) : (Instr.index 217 (.agg sgs) (.int .i64 7)).run Tryz.prog w = .ok (.string (sg 7)) w := by kernel_rfl
theorem sign_at8 (w : World) : (Instr.index 217 (.agg sgs) (.int .i64 8)).run Tryz.prog w = .ok (.string (sg 8)) w := by kernel_rfl
theorem sign_at9 (w : World) : (Instr.index 217 (.agg sgs) (.int .i64 9)).run Tryz.prog w = .ok (.string (sg 9)) w := by kernel_rfl
theorem sign_at10 (w : World) : (Instr.index 217 (.agg sgs) (.int .i64 10)).run Tryz.prog w = .ok (.string (sg 10)) w := by kernel_rfl
theorem sign_at11 (w : World) : (Instr.index 217 (.agg sgs) (.int .i64 11)).run Tryz.prog w = .ok (.string (sg 11)) w := by kernel_rfl
theorem sign_at12 (w : World) : (Instr.index 217 (.agg sgs) (.int .i64 12)).run Tryz.prog w = .ok (.string (sg 12)) w := by kernel_rfl
theorem sign_at13 (w : World) : (Instr.index 217 (.agg sgs) (.int .i64 13)).run Tryz.prog w = .ok (.string (sg 13)) w := by kernel_rfl
theorem sign_at14 (w : World) : (Instr.index 217 (.agg sgs) (.int .i64 14)).run Tryz.prog w = .ok (.string (sg 14)) w := by kernel_rfl
theorem sign_at (k : Nat) (hk : k < 15) (w : World) : (Instr.index 217 (.agg sgs) (.int .i64 k)).run Tryz.prog w = .ok (.string (sg k)) w :=
  match k, hk with
  | 0, _ => sign_at0 w
  | 1, _ => sign_at1 w
  | 2, _ => sign_at2 w
  | 3, _ => sign_at3 w
  | 4, _ => sign_at4 w
  | 5, _ => sign_at5 w
  | 6, _ => sign_at6 w
  | 7, _ => sign_at7 w
  | 8, _ => sign_at8 w
  | 9, _ => sign_at9 w
  | 10, _ => sign_at10 w
  | 11, _ => sign_at11 w
  | 12, _ => sign_at12 w
  | 13, _ => sign_at13 w
  | 14, _ => sign_at14 w
theorem find_step (p : List UInt8 → Bool) (k : Nat) (hk : k < 15) (h : p (signs.getD k []) = false) : (signs.drop k).find? p = (signs.drop (k + 1)).find? p := by
  have hl : k < signs.length := hk
  rw [List.drop_eq_getElem_cons hl]
  have : signs[k] = signs.getD k [] := by simp [List.getD, hl]
  rw [this, List.find?_cons, h]
theorem find_hit (p : List UInt8 → Bool) (k : Nat) (hk : k < 15) (h : p (signs.getD k []) = true) : (signs.drop k).find? p = some (signs.getD k []) := by
  have hl : k < signs.length := hk
  rw [List.drop_eq_getElem_cons hl]
  have : signs[k] = signs.getD k [] := by simp [List.getD, hl]
  rw [this, List.find?_cons, h]
set_option maxHeartbeats 800000 in
theorem sign_any (s : ByteArray) (w : World) (_hs : s.size ≤ maxLen) (hT : SignTab w) :
    Calls Tryz.prog 124 #[.string s] w fun e w' => e = .returned (signW s.data.toList).val ∧ Below w.heap.size w w' := by
  unfold maxLen at _hs
  obtain ⟨hg0, t, fr, hg⟩ := hT
  have hg1 : (w.alloc (.cells #[.int .i64 0, .string ⟨#[]⟩, .int .i64 0, .int .i64 0] 157)).heap[0]? = some (.cells sgs t fr) := by rw [Below.heap_alloc _ _ _ hg0]; exact hg
  have HG := Lib.hid hg1
  clear hg hg1
  go_enter Tryz.func124, Tryz.ntmps124
  go_wp2_with (refine wpList_load_row rfl 217 _ rfl 0 rfl t sgs fr _ HG.out Tryz.underlying217 rfl (by kernel_rfl) ?_)
  clear HG
  go_loop [8] (fun i => ∃ k : Nat, k ≤ 15 ∧ i = .int .i64 k ∧ Hid (signs.find? (fun x => Lib.hasPrefix s.data.toList x) = (signs.drop k).find? (fun x => Lib.hasPrefix s.data.toList x))) (fun i => 15 - (intOf i).toNat)
  case atStart => exact ⟨0, by omega, rfl, rfl⟩
  case round =>
    obtain ⟨k, hk, rfl, hf⟩ := hrel
    by_cases hlt : k < 15
    · have hix := sign_at k hlt
      have C := Tryz.strings_HasPrefix s (sg k)
      rw [show (sg k).data.toList = signs.getD k [] from rfl] at C
      have hsl : (sg k).size ≤ 9223372036854775807 := by
        have : ∀ j, j < 15 → (signs.getD j []).length ≤ 2 := by decide
        exact Nat.le_trans (this k hlt) (by omega)
      cases hp : Lib.hasPrefix s.data.toList (signs.getD k [])
      · have HF := Lib.hid (find_step _ k hlt hp)
        rw [hp] at C
        have HC := Lib.hid C; clear C hp
        go_wp2_with (go_at_call 143; refine (HC.out _).mono ?_; rintro e w' ⟨rfl, rfl⟩)
        go_round
        case rel => exact ⟨k + 1, by omega, by go_num, by have := hf.out; rw [HF.out] at this; exact this⟩
        case measure => simp [intOf]; omega
      · have HF := Lib.hid (find_hit _ k hlt hp)
        rw [hp] at C
        have HC := Lib.hid C; clear C hp
        go_wp2_with (go_at_call 143; refine (HC.out _).mono ?_; rintro e w' ⟨rfl, rfl⟩)
        refine bodyPost_ret (v := .tuple #[.agg #[.int .i64 4, .string (sg k), .int .i64 0, .int .i64 0], .int .i64 (sg k).size, .int .i64 0]) (by simp [results, Tryz.results124, go_sem]) rfl ⟨?_, ?_⟩
        · have := hf.out; rw [HF.out] at this
          unfold signW; rw [this]; rfl
        · exact (Below.refl _ _).alloc (Nat.le_refl _) _
    · obtain rfl : k = 15 := by omega
      go_wp2
      refine bodyPost_ret (v := (bad 11).val) (by simp [results, Tryz.results124, go_sem, W.val, bad]) rfl ⟨?_, ?_⟩
      · have := hf.out
        unfold signW; rw [this]; rfl
      · exact (Below.refl _ _).alloc (Nat.le_refl _) _
end Sc
end Go.Proofs.YtlfbcaenlifmkaaGreatDoor
