/- The reader's small methods: isSign, at, ended, fail, step, need, take. -/
import Derived.Test.YtlfbcaenlifmkaaGreatDoorB4
import Derived.Lib.Hide
import Derived.KernelRfl
namespace Go.Proofs.YtlfbcaenlifmkaaGreatDoor
open Go.RowKit
namespace Tr
open Sc
set_option maxHeartbeats 400000 in
theorem isSign_any (t : T) (s : List UInt8) (w : World) :
    Calls Tryz.prog 88 #[tokV t, str s] w fun e w' => e = .returned (.bool (isS t s)) ∧ Below w.heap.size w w' := by
  unfold tokV str
  by_cases hk : t.kind = 4
  · have e : isS t s = decide (t.text = s) := by unfold isS; rw [decide_eq_true hk, Bool.true_and]
    have tk : ((t.kind : Int) == 4) = true := by simp [hk]
    rw [e]
    clear hk e
    go_enter Tryz.func88, Tryz.ntmps88
    go_wp2
    go_ret
    exact ⟨ret_bool (by rw [beq_dec]), (Below.refl _ _).alloc (Nat.le_refl _) _⟩
  · have e : isS t s = false := by unfold isS; rw [decide_eq_false hk, Bool.false_and]
    have tk : ((t.kind : Int) == 4) = false := by simp; omega
    rw [e]
    clear hk e
    go_enter Tryz.func88, Tryz.ntmps88
    go_wp2
    go_ret
    exact ⟨rfl, (Below.refl _ _).alloc (Nat.le_refl _) _⟩
set_option maxHeartbeats 400000 in
theorem at_any (w : World) (rb : Nat) (r : R) (br : Nat) (a : Option Addr) (c : Nat) (h : Rd w rb r br a c) (n : Nat) (_hn : n ≤ 100) :
    Calls Tryz.prog 85 #[.pointer (some ⟨rb, 0, none⟩), .int .i64 n] w fun e w' => e = .returned (tokV (r.at_ n)) ∧ Below w.heap.size w w' := by
  have hb := fun o => (Below.refl w.heap.size w).alloc (Nat.le_refl _) o
  have hcap := h.cap
  have hmax := h.max; unfold maxLen at hmax
  by_cases hl : r.ws.length ≤ n
  · rw [at_beyond r n hl]
    obtain ⟨⟨c0, c1, c2, c3⟩, f0, f1, f2, f3⟩ := four_blk (h.keep (hb (.cells #[.int .i64 0, .string ⟨#[]⟩, .int .i64 0, .int .i64 0] 157))).blk
    have hlt := h.lt
    clear h c1 c2 c3 f0 f1 f2 f3 hb
    go_enter Tryz.func85, Tryz.ntmps85
    go_wp2
    refine bodyPost_ret (v := tokV noT) (by simp [results, Tryz.results85, go_sem, tokV, noT]) rfl ⟨rfl, ?_⟩
    exact (Below.refl _ _).alloc (Nat.le_refl _) _
  · have hlt : n < r.ws.length := by omega
    have h2 := h.keep (hb (.cells #[.int .i64 0, .string ⟨#[]⟩, .int .i64 0, .int .i64 0] 157))
    obtain ⟨⟨c0, c1, c2, c3⟩, f0, f1, f2, f3⟩ := four_blk h2.blk
    obtain ⟨g, o, rfl, hg, hgl, q0, q1, q2, q3⟩ := h2.at_in n hlt
    have hrb := h.lt
    generalize r.at_ n = t at *
    clear h h2 c1 c2 c3 f0 f1 f2 f3 hb
    go_enter Tryz.func85, Tryz.ntmps85
    go_wp2
    refine bodyPost_ret (v := tokV t) (by simp [results, Tryz.results85, go_sem, tokV]) rfl ⟨rfl, ?_⟩
    exact (Below.refl _ _).alloc (Nat.le_refl _) _
set_option maxHeartbeats 400000 in
theorem ended_any (w : World) (rb : Nat) (r : R) (br : Nat) (h : RdE w rb r br) :
    Calls Tryz.prog 52 #[.pointer (some ⟨rb, 0, none⟩)] w fun e w' => e = .returned (.bool (decide (r.ws.length = 0))) ∧ w = w' := by
  obtain ⟨a, c, h⟩ := h
  obtain ⟨⟨c0, c1, c2, c3⟩, f0, f1, f2, f3⟩ := four_blk h.blk
  have hcap := h.cap
  have hmax := h.max; unfold maxLen at hmax
  clear h c1 c2 c3 f0 f1 f2 f3
  go_enter Tryz.func52, Tryz.ntmps52
  go_wp2
  go_ret
  exact ⟨ret_bool (by by_cases h : r.ws.length = 0 <;> simp [h] <;> omega), rfl⟩
set_option maxHeartbeats 400000 in
theorem fail_any (w : World) (rb : Nat) (r : R) (br : Nat) (h : RdE w rb r br) (x : Nat) :
    Calls Tryz.prog 53 #[.pointer (some ⟨rb, 0, none⟩), .int .i64 x] w (Post w rb (r.fail x) br (.tuple #[])) := by
  obtain ⟨a, c, h⟩ := h
  have hb := h.blk
  obtain ⟨⟨c0, c1, c2, c3⟩, f0, f1, f2, f3⟩ := four_blk h.blk
  have HB := Lib.hid hb; clear hb h
  by_cases he : r.err = 0
  · have t0 : ((r.err : Int) == 0) = true := by simp [he]
    have HE := Lib.hid he; clear he
    go_enter Tryz.func53, Tryz.ntmps53
    go_wp2
    go_end0
    refine ⟨rfl, ⟨none, 0, ?_, Nat.le_refl _, Nat.zero_le _, fun t ht => (by cases ht), .inl rfl⟩, ((Only.refl _ _).setCell _ _).setCell _ _⟩
    have := fset0 (fset2 HB.out (.int .i64 x)) (.slice none 0 0)
    rw [this]; unfold R.fail; rw [if_pos HE.out]; rfl
  · have t0 : ((r.err : Int) == 0) = false := by simp; omega
    have HE := Lib.hid he; clear he
    go_enter Tryz.func53, Tryz.ntmps53
    go_wp2
    go_end0
    refine ⟨rfl, ⟨none, 0, ?_, Nat.le_refl _, Nat.zero_le _, fun t ht => (by cases ht), .inl rfl⟩, (Only.refl _ _).setCell _ _⟩
    have := fset0 HB.out (.slice none 0 0)
    rw [this]; unfold R.fail; rw [if_neg HE.out]; rfl
theorem at0_any (w : World) (rb : Nat) (r : R) (br : Nat) (h : RdE w rb r br) :
    Calls Tryz.prog 85 #[.pointer (some ⟨rb, 0, none⟩), .int .i64 0] w fun e w' => e = .returned (tokV (r.at_ 0)) ∧ Below w.heap.size w w' := by
  obtain ⟨a, c, h⟩ := h; exact at_any w rb r br a c h 0 (by omega)
theorem at1_any (w : World) (rb : Nat) (r : R) (br : Nat) (h : RdE w rb r br) :
    Calls Tryz.prog 85 #[.pointer (some ⟨rb, 0, none⟩), .int .i64 1] w fun e w' => e = .returned (tokV (r.at_ 1)) ∧ Below w.heap.size w w' := by
  obtain ⟨a, c, h⟩ := h; exact at_any w rb r br a c h 1 (by omega)
theorem at2_any (w : World) (rb : Nat) (r : R) (br : Nat) (h : RdE w rb r br) :
    Calls Tryz.prog 85 #[.pointer (some ⟨rb, 0, none⟩), .int .i64 2] w fun e w' => e = .returned (tokV (r.at_ 2)) ∧ Below w.heap.size w w' := by
  obtain ⟨a, c, h⟩ := h; exact at_any w rb r br a c h 2 (by omega)
set_option maxHeartbeats 800000 in
theorem step_cons (w : World) (rb : Nat) (r : R) (br : Nat) (t : T) (ts : List T) (hw : r.ws = t :: ts) (h : RdE w rb r br) :
    Calls Tryz.prog 89 #[.pointer (some ⟨rb, 0, none⟩)] w (Post w rb r.step br (tokV t)) := by
  have hA := (Below.refl w.heap.size w).alloc (Nat.le_refl _) (.cells #[.int .i64 0, .string ⟨#[]⟩, .int .i64 0, .int .i64 0] 157)
  have C := at0_any _ rb r br (h.keep hA)
  obtain ⟨a, c, h⟩ := h
  have hS := h.small_at 0
  have ht : r.at_ 0 = t := by unfold R.at_; rw [hw]; rfl
  rw [ht] at C hS
  have hr : r.step = ⟨ts, t.at_ + t.text.length, r.err⟩ := by unfold R.step; rw [ht, hw]; rfl
  obtain ⟨g, o, rfl, hg, hgl, -⟩ := h.at_in 0 (by rw [hw]; simp)
  have hm : ts.length + 1 ≤ c := by have := h.cap; rw [hw] at this; exact this
  have hm2 := h.max; unfold maxLen at hm2
  have hs := h.sml; rw [hw] at hs
  have hW := h.words; rw [hw] at hW
  have hb := h.blk
  rw [hw, List.length_cons] at hb
  obtain ⟨sm1, sm2⟩ := hS
  rw [hr]
  have hrb := h.lt
  have HB := Lib.hid hb; have HC := Lib.hid C; have HW := Lib.hid hW; have HS := Lib.hid hs; have HA := Lib.hid hA
  clear hA hb C hW h hw hr ht hg hgl hs
  unfold tokV at *
  by_cases h1 : c = 1
  · subst h1
    obtain rfl : ts = [] := List.eq_nil_of_length_eq_zero (by omega)
    go_enter Tryz.func89, Tryz.ntmps89
    go_wp2_with (go_at_call 85; (with_reducible refine HC.out.mono ?_); rintro e w1 ⟨rfl, hb1⟩; have B1 := Lib.hid (HA.out.trans (hb1.mono (by simp))); have E1 := Lib.hid ((B1.out.block _ hrb).trans HB.out); have E2 := Lib.hid ((hb1.block _ (by simp)).trans (heap_alloc_new w _)); have hw1 : w.heap.size < w1.heap.size := Nat.lt_of_lt_of_le (by simp) hb1.size; clear hb1; obtain ⟨⟨x0, x1, x2, x3⟩, y0, y1, y2, y3⟩ := four_blk E2.out; obtain ⟨⟨c0, c1, c2, c3⟩, f0, f1, f2, f3⟩ := four_blk E1.out; have hr1 := Nat.lt_of_lt_of_le hrb B1.out.size)
    go_region
    go_wp2
    obtain ⟨K1, K2, K3⟩ := step_end hrb hw1 B1.out E1.out E2.out (.slice (some ⟨g, o, none⟩) 0 0) (.int .i64 (t.at_ + t.text.length)) (.int .i64 t.kind) (.string ⟨t.text.toArray⟩) (.int .i64 t.n) (.int .i64 t.at_) (.cells #[.int .i64 t.kind, .string ⟨t.text.toArray⟩, .int .i64 t.n, .int .i64 t.at_] 157) _ rfl
    refine bodyPost_ret (results_cell_row rfl _ _ w.heap.size 157 _ (0, 0) _ rfl K2 Tryz.underlying157 rfl (by kernel_rfl)) rfl ⟨rfl, ⟨_, _, K1, Nat.le_refl _, Nat.zero_le _, fun t ht => (by cases ht), .inl rfl⟩, K3⟩
  · have h2 : 2 ≤ c := by omega
    have e1 : decide (c = 1) = false := by simp; omega
    clear h1
    go_enter Tryz.func89, Tryz.ntmps89
    go_wp2_with (go_at_call 85; (with_reducible refine HC.out.mono ?_); rintro e w1 ⟨rfl, hb1⟩; have B1 := Lib.hid (HA.out.trans (hb1.mono (by simp))); have E1 := Lib.hid ((B1.out.block _ hrb).trans HB.out); have E2 := Lib.hid ((hb1.block _ (by simp)).trans (heap_alloc_new w _)); have hw1 : w.heap.size < w1.heap.size := Nat.lt_of_lt_of_le (by simp) hb1.size; clear hb1; obtain ⟨⟨x0, x1, x2, x3⟩, y0, y1, y2, y3⟩ := four_blk E2.out; obtain ⟨⟨c0, c1, c2, c3⟩, f0, f1, f2, f3⟩ := four_blk E1.out; have hr1 := Nat.lt_of_lt_of_le hrb B1.out.size)
    go_region
    go_wp2
    obtain ⟨K1, K2, K3⟩ := step_end hrb hw1 B1.out E1.out E2.out (.slice (some ⟨g, o + 4, none⟩) ts.length (c - 1)) (.int .i64 (t.at_ + t.text.length)) (.int .i64 t.kind) (.string ⟨t.text.toArray⟩) (.int .i64 t.n) (.int .i64 t.at_) (.cells #[.int .i64 t.kind, .string ⟨t.text.toArray⟩, .int .i64 t.n, .int .i64 t.at_] 157) _ rfl
    refine bodyPost_ret (results_cell_row rfl _ _ w.heap.size 157 _ (0, 0) _ rfl K2 Tryz.underlying157 rfl (by kernel_rfl)) rfl ⟨rfl, ⟨_, _, K1, by simp; omega, by unfold maxLen; omega, fun x hx => HS.out x (List.mem_cons_of_mem _ hx), tail_words HW.out K3⟩, K3⟩
end Tr
end Go.Proofs.YtlfbcaenlifmkaaGreatDoor
