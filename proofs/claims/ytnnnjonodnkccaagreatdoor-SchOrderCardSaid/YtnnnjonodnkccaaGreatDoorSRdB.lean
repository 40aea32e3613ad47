/- The words of kinds: lookOf, kindOf, wordType. -/
import Derived.Test.YtnnnjonodnkccaaGreatDoorSRdA
import Derived.KernelRfl
namespace Go.Proofs.YtnnnjonodnkccaaGreatDoor
open Go.RowKit
namespace Sh
open Sc

def lks : Array Value := #[str (lkw 0), .int .i64 0, str (lkw 1), .int .i64 0, str (lkw 2), .int .i64 0, str (lkw 3), .int .i64 0, str (lkw 4), .int .i64 1, str (lkw 5), .int .i64 1, str (lkw 6), .int .i64 1, str (lkw 7), .int .i64 2, str (lkw 8), .int .i64 3, str (lkw 9), .int .i64 0]
/-- The table of looks, in memory. -/
def LookTab (w : World) : Prop := ∃ t fr, w.heap[0]? = some (.cells lks t fr)
theorem LookTab.lt {w : World} (h : LookTab w) : 0 < w.heap.size := by obtain ⟨t, fr, h⟩ := h; exact (Array.getElem?_eq_some_iff.1 h).1
theorem LookTab.below {w w' : World} (h : LookTab w) (hb : Below w.heap.size w w') : LookTab w' := by
  have hl := h.lt
  obtain ⟨t, fr, h⟩ := h; exact ⟨t, fr, (hb.block _ hl).trans h⟩
theorem LookTab.only {w w' : World} {rb : Nat} (h : LookTab w) (hb : Only rb w w') (hn : 0 ≠ rb) : LookTab w' := by
  obtain ⟨t, fr, h⟩ := h; exact ⟨t, fr, hb.blk h hn⟩

theorem lk_cells {w : World} (h : LookTab w) (k : Nat) (hk : k < 10) : w.cell? ⟨0, k * 2, none⟩ = some (str (lkw k)) ∧ w.cell? ⟨0, k * 2 + 1, none⟩ = some (.int .i64 (lkf k)) := by
  obtain ⟨t, fr, h⟩ := h
  match k, hk with
  | 0, _ => simp [World.cell?, h, lks, lkf]
  | 1, _ => simp [World.cell?, h, lks, lkf]
  | 2, _ => simp [World.cell?, h, lks, lkf]
  | 3, _ => simp [World.cell?, h, lks, lkf]
  | 4, _ => simp [World.cell?, h, lks, lkf]
  | 5, _ => simp [World.cell?, h, lks, lkf]
  | 6, _ => simp [World.cell?, h, lks, lkf]
  | 7, _ => simp [World.cell?, h, lks, lkf]
  | 8, _ => simp [World.cell?, h, lks, lkf]
  | 9, _ => simp [World.cell?, h, lks, lkf]

set_option maxHeartbeats 400000 in
theorem lookOf_in (w : World) (hL : LookTab w) (k : Nat) (hk : k < 10) :
    Calls Tryz.prog 48 #[.int .i64 k] w fun e w' => e = .returned (.agg #[str (lkw k), .int .i64 (lkf k)]) ∧ Below w.heap.size w w' := by
  obtain ⟨c0, c1⟩ := lk_cells (hL.below ((Below.refl _ _).alloc (Nat.le_refl _) (.cells #[.string ⟨#[]⟩, .int .i64 0] 103))) k hk
  have hg := hL.lt
  clear hL
  unfold str at *
  go_enter Tryz.func48, Tryz.ntmps48
  go_wp2
  refine bodyPost_ret (v := .agg #[.string ⟨(lkw k).toArray⟩, .int .i64 (lkf k)]) (by simp [results, Tryz.results48, go_sem]) rfl ⟨rfl, ?_⟩
  exact (Below.refl _ _).alloc (Nat.le_refl _) _

theorem lk_at0 (w : World) : (Instr.index 116 (.agg lks) (.int .i64 0)).run Tryz.prog w = .ok (.agg #[str (lkw 0), .int .i64 (lkf 0)]) w := by kernel_rfl
theorem lk_at1 (w : World) : (Instr.index 116 (.agg lks) (.int .i64 1)).run Tryz.prog w = .ok (.agg #[str (lkw 1), .int .i64 (lkf 1)]) w := by kernel_rfl
theorem lk_at2 (w : World) : (Instr.index 116 (.agg lks) (.int .i64 2)).run Tryz.prog w = .ok (.agg #[str (lkw 2), .int .i64 (lkf 2)]) w := by kernel_rfl
theorem lk_at3 (w : World) : (Instr.index 116 (.agg lks) (.int .i64 3)).run Tryz.prog w = .ok (.agg #[str (lkw 3), .int .i64 (lkf 3)]) w := by kernel_rfl
theorem lk_at4 (w : World) : (Instr.index 116 (.agg lks) (.int .i64 4)).run Tryz.prog w = .ok (.agg #[str (lkw 4), .int .i64 (lkf 4)]) w := by kernel_rfl
theorem lk_at5 (w : World) : (Instr.index 116 (.agg lks) (.int .i64 5)).run Tryz.prog w = .ok (.agg #[str (lkw 5), .int .i64 (lkf 5)]) w := by kernel_rfl
theorem lk_at6 (w : World) : (Instr.index 116 (.agg lks) (.int .i64 6)).run Tryz.prog w = .ok (.agg #[str (lkw 6), .int .i64 (lkf 6)]) w := by kernel_rfl
theorem lk_at7 (w : World) : (Instr.index 116 (.agg lks) (.int .i64 7)).run Tryz.prog w = .ok (.agg #[str (lkw 7), .int .i64 (lkf 7)]) w := by kernel_rfl
theorem lk_at8 (w : World) : (Instr.index 116 (.agg lks) (.int .i64 8)).run Tryz.prog w = .ok (.agg #[str (lkw 8), .int .i64 (lkf 8)]) w := by kernel_rfl
theorem lk_at9 (w : World) : (Instr.index 116 (.agg lks) (.int .i64 9)).run Tryz.prog w = .ok (.agg #[str (lkw 9), .int .i64 (lkf 9)]) w := by kernel_rfl
theorem lk_at (k : Nat) (hk : k < 10) (w : World) : (Instr.index 116 (.agg lks) (.int .i64 k)).run Tryz.prog w = .ok (.agg #[str (lkw k), .int .i64 (lkf k)]) w :=
  match k, hk with
  | 0, _ => lk_at0 w
  | 1, _ => lk_at1 w
  | 2, _ => lk_at2 w
  | 3, _ => lk_at3 w
  | 4, _ => lk_at4 w
  | 5, _ => lk_at5 w
  | 6, _ => lk_at6 w
  | 7, _ => lk_at7 w
  | 8, _ => lk_at8 w
  | 9, _ => lk_at9 w

theorem kindOf_hit (s : List UInt8) (k : Nat) (hk : k < 10) (h : lkw k = s) (hn : ∀ j, j < k → lkw j ≠ s) : kindOf s = k := by
  subst h
  match k, hk, hn with
  | 0, _, _ => rfl
  | 1, _, _ => rfl
  | 2, _, _ => rfl
  | 3, _, _ => rfl
  | 4, _, _ => rfl
  | 5, _, _ => rfl
  | 6, _, _ => rfl
  | 7, _, hn => exact absurd rfl (hn 0 (by decide))
  | 8, _, _ => rfl
  | 9, _, hn => exact absurd rfl (hn 0 (by decide))
theorem kindOf_none (s : List UInt8) (hn : ∀ j, j < 10 → lkw j ≠ s) : kindOf s = 9 := by
  unfold kindOf
  rw [if_neg (fun e => hn 0 (by decide) e.symm), if_neg (fun e => hn 1 (by decide) e.symm), if_neg (fun e => hn 2 (by decide) e.symm), if_neg (fun e => hn 3 (by decide) e.symm), if_neg (fun e => hn 4 (by decide) e.symm),
    if_neg (fun e => hn 5 (by decide) e.symm), if_neg (fun e => hn 6 (by decide) e.symm), if_neg (fun e => hn 8 (by decide) e.symm)]
theorem kindOf_le (s : List UInt8) : kindOf s ≤ 9 := by
  unfold kindOf
  repeat' split
  all_goals omega

set_option maxHeartbeats 800000 in
theorem kindOf_any (s : List UInt8) (w : World) (hL : LookTab w) :
    Calls Tryz.prog 66 #[.string ⟨s.toArray⟩] w fun e w' => e = .returned (.int .i64 (kindOf s)) ∧ Below w.heap.size w w' := by
  obtain ⟨t, fr, hg⟩ := hL
  have HG := Lib.hid hg
  clear hg
  go_enter Tryz.func66, Tryz.ntmps66
  go_wp2_with (refine wpList_load_row rfl 116 _ rfl 0 rfl t lks fr _ HG.out Tryz.underlying116 rfl (by kernel_rfl) ?_)
  clear HG
  go_loopw [6] (fun i wr => ∃ k : Nat, k ≤ 10 ∧ i = .int .i64 k ∧ Hid (∀ j, j < k → lkw j ≠ s) ∧ Below w.heap.size w wr) (fun i _ => 10 - (intOf i).toNat)
  case atStart => exact ⟨0, by omega, rfl, fun j hj => absurd hj (Nat.not_lt_zero _), Below.refl _ _⟩
  case round =>
    obtain ⟨k, hk, rfl, hf, hb⟩ := hrel
    have HB := Lib.hid hb; clear hb
    by_cases hlt : k < 10
    · have hix := lk_at k hlt
      unfold str at hix
      by_cases hw : lkw k = s
      · have HF := Lib.hid (kindOf_hit s k hlt hw hf.out)
        have te : (lkw k == s) = true := by simp [hw]
        clear hf hw
        go_wp2
        go_ret
        exact ⟨by rw [HF.out]; rfl, HB.out.alloc HB.out.size _⟩
      · have te : (lkw k == s) = false := by simp [hw]
        have HW := Lib.hid hw; clear hw
        go_wp2
        go_roundw
        case rel => exact ⟨k + 1, by omega, by go_num, fun j hj => (by rcases Nat.lt_succ_iff_lt_or_eq.1 hj with h | h; exact hf.out j h; rw [h]; exact HW.out), HB.out.alloc HB.out.size _⟩
        case measure => simp [intOf]; omega
    · obtain rfl : k = 10 := by omega
      have HF := Lib.hid (kindOf_none s hf.out)
      go_wp2
      go_ret
      exact ⟨by rw [HF.out]; rfl, HB.out⟩

set_option maxHeartbeats 400000 in
/-- wordType: of a word that is no empty one. -/
theorem wordType_any (s : List UInt8) (w : World) (hL : LookTab w) :
    Calls Tryz.prog 46 #[.string ⟨s.toArray⟩] w fun e w' => e = .returned (C4.val ⟨kindOf s, if kindOf s = 9 then ⟨s.toArray⟩ else ⟨#[]⟩, none, 0, 0, none, 0, 0⟩) ∧ Below w.heap.size w w' := by
  have C := fun w hL => kindOf_any s w hL
  have hle := kindOf_le s
  generalize kindOf s = k at *
  have HC := Lib.hid C; have HL := Lib.hid hL; clear C hL
  by_cases h9 : k = 9
  · subst h9
    rw [if_pos rfl]
    go_enter Tryz.func46, Tryz.ntmps46
    go_wp2_with (go_at_call 66; (refine (HC.out _ (HL.out.below ((Below.refl _ _).alloc (Nat.le_refl _) _))).mono ?_); rintro e w1 ⟨rfl, hb0⟩; obtain ⟨⟨q0, q1, q2, q3⟩, ⟨z0, z1, z2, z3⟩, hlt, hb⟩ := four (by simpa using hb0); clear hb0)
    refine bodyPost_ret (v := C4.val ⟨9, ⟨s.toArray⟩, none, 0, 0, none, 0, 0⟩) (by simp [results, Tryz.results46, go_sem, C4.val, q0, q1, q2, q3, hlt]) rfl ⟨rfl, ?_⟩
    exact (((hb.setCell (Nat.le_refl _) _).setCell (Nat.le_refl _) _).setCell (Nat.le_refl _) _).setCell (Nat.le_refl _) _
  · rw [if_neg h9]
    have t9 : ((k : Int) == 9) = false := by simp; omega
    clear h9
    go_enter Tryz.func46, Tryz.ntmps46
    go_wp2_with (go_at_call 66; (refine (HC.out _ (HL.out.below ((Below.refl _ _).alloc (Nat.le_refl _) _))).mono ?_); rintro e w1 ⟨rfl, hb0⟩; obtain ⟨⟨q0, q1, q2, q3⟩, ⟨z0, z1, z2, z3⟩, hlt, hb⟩ := four (by simpa using hb0); clear hb0)
    refine bodyPost_ret (v := C4.val ⟨k, ⟨#[]⟩, none, 0, 0, none, 0, 0⟩) (by simp [results, Tryz.results46, go_sem, C4.val, q0, q1, q2, q3, hlt]) rfl ⟨rfl, ?_⟩
    exact (((hb.setCell (Nat.le_refl _) _).setCell (Nat.le_refl _) _).setCell (Nat.le_refl _) _).setCell (Nat.le_refl _) _
end Sh
end Go.Proofs.YtnnnjonodnkccaaGreatDoor
