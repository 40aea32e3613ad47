/- The builder's and the blocks' small methods. Written by gen_qinn.py. -/
import Derived.Test.YtlfbcaenlifmkaaGreatDoorB35
namespace Go.Proofs.YtlfbcaenlifmkaaGreatDoor
open Go.RowKit
namespace Tr
open Sc Sh Sp
set_option maxRecDepth 100000 in
set_option maxHeartbeats 2000000 in
theorem inner_cell (w : World) (bb oa n oc : Nat) (hn : n ≤ 2000) (c0 : w.cell? ⟨bb, 0, none⟩ = some (.slice (some ⟨oa, 0, none⟩) (n + 1) oc)) :
    Calls Tryz.prog 68 #[.pointer (some ⟨bb, 0, none⟩)] w fun e w' => e = .returned (.pointer (some ⟨oa, n * 9, none⟩)) ∧ w' = w.drew := by
  go_enter Tryz.func68, Tryz.ntmps68
  go_upto_region 1 with fail
  refine wp_region_by (QJ (fun (_ : Unit) qq => match qq with | 0 => .pointer (some ⟨bb, 0, none⟩) | 1 => .pointer (some ⟨bb, 0, none⟩) | 2 => .pointer (some ⟨bb, 0, none⟩) | 3 => .slice (some ⟨oa, 0, none⟩) (n + 1) oc | 4 => .pointer (some ⟨bb, 0, none⟩) | 5 => .pointer (some ⟨bb, 0, none⟩) | 6 => .pointer (some ⟨bb, 0, none⟩) | 7 => .slice (some ⟨oa, 0, none⟩) (n + 1) oc | 8 => .int .i64 ((n + 1 : Nat) : Int) | 9 => .int .i64 n | 10 => .pointer (some ⟨oa, n * 9, none⟩) | 11 => .pointer (some ⟨oa, n * 9, none⟩) | _ => undef) (fun _ _ v => v = w.drew)) (by kernel_rfl) ?_ ?_ ?_
  · exact ⟨by simp, Closed.start _, (), Fr.start _ _ _, rfl⟩
  · intro listed b v q hJ hi
    obtain ⟨hsz, hC, x, hF, hM⟩ := hJ
    obtain ⟨hl1, hiN⟩ := not_up hsz hi
    obtain ⟨_, o, ho, hdeps⟩ := mem_ready.1 hi
    have hiN : q < 12 := hiN
    obtain rfl | rfl | rfl | rfl | rfl | rfl | rfl | rfl | rfl | rfl | rfl | rfl : q = 0 ∨ q = 1 ∨ q = 2 ∨ q = 3 ∨ q = 4 ∨ q = 5 ∨ q = 6 ∨ q = 7 ∨ q = 8 ∨ q = 9 ∨ q = 10 ∨ q = 11 := by omega
    · cases ho
      have e0 := hF.old_is 0 (by rfl) rfl
      refine QJ.quiet (x := x) hsz hC hi hF (Slots.of (by rfl)) rfl (wanted_none rfl) hM ?_
      show _ = Result.ok (Next.value (.pointer (some ⟨bb, 0, none⟩))) v
      simp [execOp, go_sem, e0]
    · cases ho
      have e3 : b.tmps[3]? = some (.pointer (some ⟨bb, 0, none⟩)) := hF.up 0 3 rfl (hdeps ⟨0, .data⟩ (by simp) rfl)
      refine QJ.quiet (x := x) hsz hC hi hF (Slots.of (by rfl)) rfl (wanted_none rfl) hM ?_
      show _ = Result.ok (Next.value (.pointer (some ⟨bb, 0, none⟩))) v
      simp [execOp, go_sem, e3]
    · cases ho
      have e4 : b.tmps[4]? = some (.pointer (some ⟨bb, 0, none⟩)) := hF.up 1 4 rfl (hdeps ⟨1, .data⟩ (by simp) rfl)
      refine QJ.quiet (x := x) hsz hC hi hF (Slots.of (by rfl)) rfl (wanted_none rfl) hM ?_
      show _ = Result.ok (Next.value (.pointer (some ⟨bb, 0, none⟩))) v
      simp [execOp, go_sem, e4]
    · cases ho
      have e5 : b.tmps[5]? = some (.pointer (some ⟨bb, 0, none⟩)) := hF.up 2 5 rfl (hdeps ⟨2, .data⟩ (by simp) rfl)
      have k0 : v.cell? ⟨bb, 0, none⟩ = some (.slice (some ⟨oa, 0, none⟩) (n + 1) oc) := by rw [hM]; exact c0
      refine QJ.quiet (x := x) hsz hC hi hF (Slots.of (by rfl)) rfl (wanted_none rfl) hM ?_
      show _ = Result.ok (Next.value (.slice (some ⟨oa, 0, none⟩) (n + 1) oc)) v
      simp [execOp, go_sem, e5, k0]
    · cases ho
      have e0 := hF.old_is 0 (by rfl) rfl
      refine QJ.quiet (x := x) hsz hC hi hF (Slots.of (by rfl)) rfl (wanted_none rfl) hM ?_
      show _ = Result.ok (Next.value (.pointer (some ⟨bb, 0, none⟩))) v
      simp [execOp, go_sem, e0]
    · cases ho
      have e7 : b.tmps[7]? = some (.pointer (some ⟨bb, 0, none⟩)) := hF.up 4 7 rfl (hdeps ⟨4, .data⟩ (by simp) rfl)
      refine QJ.quiet (x := x) hsz hC hi hF (Slots.of (by rfl)) rfl (wanted_none rfl) hM ?_
      show _ = Result.ok (Next.value (.pointer (some ⟨bb, 0, none⟩))) v
      simp [execOp, go_sem, e7]
    · cases ho
      have e8 : b.tmps[8]? = some (.pointer (some ⟨bb, 0, none⟩)) := hF.up 5 8 rfl (hdeps ⟨5, .data⟩ (by simp) rfl)
      refine QJ.quiet (x := x) hsz hC hi hF (Slots.of (by rfl)) rfl (wanted_none rfl) hM ?_
      show _ = Result.ok (Next.value (.pointer (some ⟨bb, 0, none⟩))) v
      simp [execOp, go_sem, e8]
    · cases ho
      have e9 : b.tmps[9]? = some (.pointer (some ⟨bb, 0, none⟩)) := hF.up 6 9 rfl (hdeps ⟨6, .data⟩ (by simp) rfl)
      have k0 : v.cell? ⟨bb, 0, none⟩ = some (.slice (some ⟨oa, 0, none⟩) (n + 1) oc) := by rw [hM]; exact c0
      refine QJ.quiet (x := x) hsz hC hi hF (Slots.of (by rfl)) rfl (wanted_none rfl) hM ?_
      show _ = Result.ok (Next.value (.slice (some ⟨oa, 0, none⟩) (n + 1) oc)) v
      simp [execOp, go_sem, e9, k0]
    · cases ho
      have e10 : b.tmps[10]? = some (.slice (some ⟨oa, 0, none⟩) (n + 1) oc) := hF.up 7 10 rfl (hdeps ⟨7, .data⟩ (by simp) rfl)
      refine QJ.quiet (x := x) hsz hC hi hF (Slots.of (by rfl)) rfl (wanted_none rfl) hM ?_
      show _ = Result.ok (Next.value (.int .i64 ((n + 1 : Nat) : Int))) v
      simp [execOp, go_sem, e10]
    · cases ho
      have e11 : b.tmps[11]? = some (.int .i64 ((n + 1 : Nat) : Int)) := hF.up 8 11 rfl (hdeps ⟨8, .data⟩ (by simp) rfl)
      refine QJ.quiet (x := x) hsz hC hi hF (Slots.of (by rfl)) rfl (wanted_none rfl) hM ?_
      show _ = Result.ok (Next.value (.int .i64 n)) v
      simp [execOp, go_sem, e11]
      exact wrap_sub n hn
    · cases ho
      have e6 : b.tmps[6]? = some (.slice (some ⟨oa, 0, none⟩) (n + 1) oc) := hF.up 3 6 rfl (hdeps ⟨3, .data⟩ (by simp) rfl)
      have e12 : b.tmps[12]? = some (.int .i64 n) := hF.up 9 12 rfl (hdeps ⟨9, .data⟩ (by simp) rfl)
      refine QJ.quiet (x := x) hsz hC hi hF (Slots.of (by rfl)) rfl (wanted_none rfl) hM ?_
      show _ = Result.ok (Next.value (.pointer (some ⟨oa, n * 9, none⟩))) v
      simp [execOp, go_sem, e6, e12]
      intro hh; omega
    · cases ho
      have e13 : b.tmps[13]? = some (.pointer (some ⟨oa, n * 9, none⟩)) := hF.up 10 13 rfl (hdeps ⟨10, .data⟩ (by simp) rfl)
      refine QJ.quiet (x := x) hsz hC hi hF (Slots.of (by rfl)) rfl (wanted_none rfl) hM ?_
      show _ = Result.ok (Next.value (.pointer (some ⟨oa, n * 9, none⟩))) v
      simp [execOp, go_sem, e13]
  intro listed b W5 hJ hr'
  obtain ⟨hsz, hC, xx, hF, hM⟩ := hJ
  have hall := all_upB2 (by rfl) hsz hr'
  have hb : b = putAll _ _ _ 12 := hF.done (Slots.of (by rfl)) hall
  subst hb
  subst W5
  simp only [putAll]
  simp [dstOf, Act.put]
  clear hF hC hall hr' hsz
  go_wp2
  go_ret
  exact ⟨rfl, rfl⟩
theorem two_blk {w : World} {b : Nat} {t : TypeId} {v0 v1 : Value} (h : w.heap[b]? = some (.cells #[v0, v1] t (0, 0))) :
    (w.cell? ⟨b, 0, none⟩ = some v0 ∧ w.cell? ⟨b, 1, none⟩ = some v1) ∧ (w.frozen? ⟨b, 0, none⟩ = false ∧ w.frozen? ⟨b, 1, none⟩ = false) := by
  refine ⟨⟨?_, ?_⟩, ⟨?_, ?_⟩⟩ <;> simp [World.cell?, World.frozen?, h]
set_option maxHeartbeats 400000 in
theorem depth_cell (w : World) (bb oa n oc : Nat) (hn : n ≤ 2000) (c0 : w.cell? ⟨bb, 0, none⟩ = some (.slice (some ⟨oa, 0, none⟩) (n + 1) oc)) :
    Calls Tryz.prog 42 #[.pointer (some ⟨bb, 0, none⟩)] w fun e w' => e = .returned (.int .i64 n) ∧ w = w' := by
  go_enter Tryz.func42, Tryz.ntmps42
  go_wp2
  go_ret
  exact ⟨ret_int (by omega), rfl⟩
set_option maxHeartbeats 400000 in
theorem branches_cell (w : World) (ob oo : Nat) (k : Int) (c0 : w.cell? ⟨ob, oo, none⟩ = some (.int .i64 k)) :
    Calls Tryz.prog 108 #[.pointer (some ⟨ob, oo, none⟩)] w fun e w' => e = .returned (.bool (decide (k = 5) || decide (k = 6) || decide (k = 7) || decide (k = 8))) ∧ w = w' := by
  by_cases h5 : k = 5
  · subst h5
    go_enter Tryz.func108, Tryz.ntmps108
    go_wp2
    go_ret
    exact ⟨rfl, rfl⟩
  · have e5 : (k == 5) = false := by simp [h5]
    by_cases h6 : k = 6
    · subst h6
      go_enter Tryz.func108, Tryz.ntmps108
      go_wp2
      go_ret
      exact ⟨rfl, rfl⟩
    · have e6 : (k == 6) = false := by simp [h6]
      by_cases h7 : k = 7
      · subst h7
        go_enter Tryz.func108, Tryz.ntmps108
        go_wp2
        go_ret
        exact ⟨rfl, rfl⟩
      · have e7 : (k == 7) = false := by simp [h7]
        by_cases h8 : k = 8
        · subst h8
          go_enter Tryz.func108, Tryz.ntmps108
          go_wp2
          go_ret
          exact ⟨rfl, rfl⟩
        · have e8 : (k == 8) = false := by simp [h8]
          have hf : (decide (k = 5) || decide (k = 6) || decide (k = 7) || decide (k = 8)) = false := by simp [h5, h6, h7, h8]
          rw [hf]
          clear h5 h6 h7 h8 hf
          go_enter Tryz.func108, Tryz.ntmps108
          go_wp2
          go_ret
          exact ⟨rfl, rfl⟩
set_option maxHeartbeats 800000 in
theorem waits_cell (w : World) (ob oo : Nat) (k : Int) (h : Bool) (ca : Option Addr) (cl cc : Nat) (c0 : w.cell? ⟨ob, oo, none⟩ = some (.int .i64 k)) (c7 : w.cell? ⟨ob, oo + 7, none⟩ = some (.bool h)) (c8 : w.cell? ⟨ob, oo + 8, none⟩ = some (.slice ca cl cc)) :
    Calls Tryz.prog 103 #[.pointer (some ⟨ob, oo, none⟩)] w fun e w' => e = .returned (.bool (decide (k = 8) && decide (cl = 0) && !h)) ∧ w = w' := by
  by_cases h8 : k = 8
  · subst h8
    by_cases hc : cl = 0
    · subst hc
      go_enter Tryz.func103, Tryz.ntmps103
      go_wp2
      go_ret
      exact ⟨ret_bool (by simp), rfl⟩
    · have ec : ((cl : Int) == 0) = false := by simp; omega
      have hf : (decide ((8 : Int) = 8) && decide (cl = 0) && !h) = false := by simp [hc]
      rw [hf]
      clear hc hf
      go_enter Tryz.func103, Tryz.ntmps103
      go_wp2
      go_ret
      exact ⟨rfl, rfl⟩
  · have e8 : (k == 8) = false := by simp [h8]
    have hf : (decide (k = 8) && decide (cl = 0) && !h) = false := by simp [h8]
    rw [hf]
    clear h8 hf
    go_enter Tryz.func103, Tryz.ntmps103
    go_wp2
    go_ret
    exact ⟨rfl, rfl⟩
/-- What allows answers, of a kind, whether there is an else, and how many cases. -/
def allowsK (k : Int) (h : Bool) (cl : Nat) (q : Int) : Bool :=
  if q = -2 then !decide (k = 0)
  else if q = -1 then (decide (k = 5) || decide (k = 6) || decide (k = 7) || decide (k = 8)) && !h
  else if q = -3 then decide (k = 8) && !h
  else if q = -4 then decide (k = 0)
  else !(decide (k = 8) && decide (cl = 0) && !h)
theorem allows_is (d : Nd) (q : Int) : d.allows q = allowsK d.kind d.hasElse d.cases.length q := rfl
set_option maxHeartbeats 1600000 in
theorem allows_cell (w : World) (ob oo : Nat) (k : Int) (h : Bool) (ca : Option Addr) (cl cc : Nat) (c0 : w.cell? ⟨ob, oo, none⟩ = some (.int .i64 k)) (c7 : w.cell? ⟨ob, oo + 7, none⟩ = some (.bool h)) (c8 : w.cell? ⟨ob, oo + 8, none⟩ = some (.slice ca cl cc)) (q : Int) :
    Calls Tryz.prog 69 #[.pointer (some ⟨ob, oo, none⟩), .int .i64 q] w fun e w' => e = .returned (.bool (allowsK k h cl q)) ∧ w = w' := by
  have HB := Lib.hid (branches_cell w ob oo k c0)
  have HW := Lib.hid (waits_cell w ob oo k h ca cl cc c0 c7 c8)
  unfold allowsK
  by_cases q2 : q = -2
  · subst q2
    rw [if_pos rfl]
    go_enter Tryz.func69, Tryz.ntmps69
    go_wp2
    go_ret
    exact ⟨ret_bool (by by_cases hk : k = 0 <;> simp [hk]), rfl⟩
  rw [if_neg q2]
  have e2 : (q == -2) = false := by simp [q2]
  by_cases q1 : q = -1
  · subst q1
    rw [if_pos rfl]
    cases hbr : (decide (k = 5) || decide (k = 6) || decide (k = 7) || decide (k = 8))
    all_goals
      rw [hbr] at HB
      go_enter Tryz.func69, Tryz.ntmps69
      go_wp2_with (go_at_call 108; (refine HB.out.mono ?_); rintro e w1 ⟨rfl, rfl⟩)
      go_ret
      exact ⟨ret_bool (by simp), rfl⟩
  rw [if_neg q1]
  have e1 : (q == -1) = false := by simp [q1]
  by_cases q3 : q = -3
  · subst q3
    rw [if_pos rfl]
    by_cases h8 : k = 8
    · subst h8
      clear HB HW
      go_enter Tryz.func69, Tryz.ntmps69
      go_wp2
      go_ret
      exact ⟨ret_bool (by simp), rfl⟩
    · have e8 : (k == 8) = false := by simp [h8]
      have hf : (decide (k = 8) && !h) = false := by simp [h8]
      rw [hf]
      clear HB HW h8 hf
      go_enter Tryz.func69, Tryz.ntmps69
      go_wp2
      go_ret
      exact ⟨rfl, rfl⟩
  rw [if_neg q3]
  have e3 : (q == -3) = false := by simp [q3]
  by_cases q4 : q = -4
  · subst q4
    rw [if_pos rfl]
    clear HB HW
    go_enter Tryz.func69, Tryz.ntmps69
    go_wp2
    go_ret
    exact ⟨ret_bool (by by_cases hk : k = 0 <;> simp [hk]), rfl⟩
  rw [if_neg q4]
  have e4 : (q == -4) = false := by simp [q4]
  generalize (decide (k = 8) && decide (cl = 0) && !h) = wt at *
  clear q1 q2 q3 q4 HB
  go_enter Tryz.func69, Tryz.ntmps69
  go_wp2_with (go_at_call 103; (refine HW.out.mono ?_); rintro e w1 ⟨rfl, rfl⟩)
  go_ret
  exact ⟨rfl, rfl⟩
end Tr
end Go.Proofs.YtlfbcaenlifmkaaGreatDoor
