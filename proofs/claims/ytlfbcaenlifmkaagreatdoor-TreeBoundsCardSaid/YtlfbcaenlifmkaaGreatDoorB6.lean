/- The reader further: take, need, atField, field. -/
import Derived.Test.YtlfbcaenlifmkaaGreatDoorB5
namespace Go.Proofs.YtlfbcaenlifmkaaGreatDoor
open Go.RowKit
namespace Tr
open Sc
theorem tok_f0 (t : T) (w : World) : (Instr.field 157 (.agg #[.int .i64 t.kind, .string ⟨t.text.toArray⟩, .int .i64 t.n, .int .i64 t.at_]) 0).run Tryz.prog w = .ok (.int .i64 t.kind) w := by kernel_rfl
theorem tok_f1 (t : T) (w : World) : (Instr.field 157 (.agg #[.int .i64 t.kind, .string ⟨t.text.toArray⟩, .int .i64 t.n, .int .i64 t.at_]) 1).run Tryz.prog w = .ok (.string ⟨t.text.toArray⟩) w := by kernel_rfl
theorem tok_f2 (t : T) (w : World) : (Instr.field 157 (.agg #[.int .i64 t.kind, .string ⟨t.text.toArray⟩, .int .i64 t.n, .int .i64 t.at_]) 2).run Tryz.prog w = .ok (.int .i64 t.n) w := by kernel_rfl
theorem tok_f3 (t : T) (w : World) : (Instr.field 157 (.agg #[.int .i64 t.kind, .string ⟨t.text.toArray⟩, .int .i64 t.n, .int .i64 t.at_]) 3).run Tryz.prog w = .ok (.int .i64 t.at_) w := by kernel_rfl
/-- A step where a word is left. -/
theorem step_any (w : World) (rb : Nat) (r : R) (br : Nat) (h0 : 1 ≤ r.ws.length) (h : RdE w rb r br) :
    Calls Tryz.prog 89 #[.pointer (some ⟨rb, 0, none⟩)] w (Post w rb r.step br (tokV (r.at_ 0))) := by
  cases hw : r.ws with
  | nil => rw [hw] at h0; exact absurd h0 (Nat.not_lt_zero _)
  | cons t ts =>
    have ht : r.at_ 0 = t := by unfold R.at_; rw [hw]; rfl
    rw [ht]
    exact step_cons w rb r br t ts hw h
def takeR (s : List UInt8) (r : R) : R := if isS (r.at_ 0) s then r.step else r
set_option maxHeartbeats 400000 in
theorem take_any (w : World) (rb : Nat) (r : R) (br : Nat) (s : List UInt8) (h : RdE w rb r br) :
    Calls Tryz.prog 55 #[.pointer (some ⟨rb, 0, none⟩), str s] w (Post w rb (takeR s r) br (.bool (isS (r.at_ 0) s))) := by
  have HC := Lib.hid (at0_any w rb r br h)
  have HI := Lib.hid (fun w' => isSign_any (r.at_ 0) s w')
  unfold takeR
  cases hk : isS (r.at_ 0) s
  · rw [hk] at HI
    have HH := Lib.hid h
    clear h hk
    go_enter Tryz.func55, Tryz.ntmps55
    go_wp2_with (first
      | (go_at_call 85; (with_reducible refine HC.out.mono ?_); rintro e w1 ⟨rfl, b1⟩; have B1 := Lib.hid b1; clear b1)
      | (go_at_call 88; (refine (HI.out w1).mono ?_); rintro e w2 ⟨rfl, b2⟩; have B2 := Lib.hid (B1.out.trans (b2.mono B1.out.size)); clear b2))
    go_ret
    exact ⟨rfl, HH.out.keep B2.out, Only.of_below B2.out⟩
  · rw [hk] at HI
    have h0 := isS_len r s hk
    have HS := Lib.hid (fun w' (hw : Below w.heap.size w w') => step_any w' rb r br h0 (h.keep hw))
    clear h hk h0
    go_enter Tryz.func55, Tryz.ntmps55
    go_wp2_with (first
      | (go_at_call 85; (with_reducible refine HC.out.mono ?_); rintro e w1 ⟨rfl, b1⟩; have B1 := Lib.hid b1; clear b1)
      | (go_at_call 88; (refine (HI.out w1).mono ?_); rintro e w2 ⟨rfl, b2⟩; have B2 := Lib.hid (B1.out.trans (b2.mono B1.out.size)); clear b2)
      | (go_at_call 89; (refine (HS.out w2 B2.out).mono ?_); rintro e w3 ⟨rfl, h3, o3⟩))
    go_ret
    exact ⟨rfl, h3, (Only.of_below B2.out).trans o3⟩
set_option maxHeartbeats 400000 in
theorem need_any (w : World) (rb : Nat) (r : R) (br : Nat) (k : Nat) (k0 : k ≠ 0) (h : RdE w rb r br) :
    Calls Tryz.prog 152 #[.pointer (some ⟨rb, 0, none⟩), .int .i64 k] w (Post w rb (need k r).2 br (str (need k r).1)) := by
  have C := at0_any w rb r br h
  unfold tokV at C
  have HC := Lib.hid C; clear C
  unfold need
  by_cases hk : (r.at_ 0).kind = k
  · rw [if_pos hk]
    have h0 := at_zero_pos r (by omega)
    have S := fun w' (hw : Below w.heap.size w w') => step_any w' rb r br h0 (h.keep hw)
    unfold tokV at S
    have HS := Lib.hid S; clear S
    have tk : (((r.at_ 0).kind : Int) != (k : Int)) = false := by simp [hk]
    unfold str
    clear h hk h0
    generalize r.step = r1 at *
    generalize r.at_ 0 = t at *
    clear r
    have g0 := tok_f0 t; have g1 := tok_f1 t
    go_enter Tryz.func152, Tryz.ntmps152
    go_wp2_with (first
      | (go_at_call 85; (with_reducible refine HC.out.mono ?_); rintro e w1 ⟨rfl, b1⟩; have B1 := Lib.hid b1; clear b1)
      | (go_at_call 89; (refine (HS.out w1 B1.out).mono ?_); rintro e w3 ⟨rfl, h3, o3⟩))
    go_ret
    exact ⟨rfl, h3, (Only.of_below B1.out).trans o3⟩
  · rw [if_neg hk]
    have HF := Lib.hid (fun w' (hw : Below w.heap.size w w') => fail_any w' rb r br (h.keep hw) 12)
    have tk : (((r.at_ 0).kind : Int) != (k : Int)) = true := by simp; omega
    unfold str
    clear h hk
    generalize r.fail 12 = r1 at *
    generalize r.at_ 0 = t at *
    clear r
    have g0 := tok_f0 t; have g1 := tok_f1 t
    go_enter Tryz.func152, Tryz.ntmps152
    go_wp2_with (first
      | (go_at_call 85; (with_reducible refine HC.out.mono ?_); rintro e w1 ⟨rfl, b1⟩; have B1 := Lib.hid b1; clear b1)
      | (go_at_call 53; (refine (HF.out w1 B1.out).mono ?_); rintro e w3 ⟨rfl, h3, o3⟩))
    go_ret
    exact ⟨rfl, h3, (Only.of_below B1.out).trans o3⟩
set_option maxHeartbeats 400000 in
theorem field_any (w : World) (rb : Nat) (r : R) (br : Nat) (h0 : 2 ≤ r.ws.length) (h : RdE w rb r br) :
    Calls Tryz.prog 166 #[.pointer (some ⟨rb, 0, none⟩)] w (Post w rb (fieldR r).2 br (str (fieldR r).1)) := by
  have HS := Lib.hid (step_any w rb r br (by omega) h)
  have h1 := step_lt r (by omega)
  have S := fun w' (h' : RdE w' rb r.step br) => step_any w' rb r.step br (by omega) h'
  unfold tokV at S
  have HT := Lib.hid S; clear S
  unfold fieldR str
  clear h h1
  generalize r.step.step = r2 at *
  generalize r.step.at_ 0 = t2 at *
  generalize r.step = r1 at *
  generalize r.at_ 0 = t at *
  clear h0
  unfold tokV at HS
  have g0 := tok_f1 t2
  go_enter Tryz.func166, Tryz.ntmps166
  go_wp2_with (first
    | (go_at_call 89; (with_reducible refine HS.out.mono ?_); rintro e w1 ⟨rfl, h1, o1⟩; have H1 := Lib.hid h1; clear HS h1)
    | (go_at_call 89; (refine (HT.out w1 H1.out).mono ?_); rintro e w2 ⟨rfl, h2, o2⟩))
  go_ret
  exact ⟨rfl, h2, o1.trans o2⟩
end Tr
end Go.Proofs.YtlfbcaenlifmkaaGreatDoor
namespace Go.Proofs.YtlfbcaenlifmkaaGreatDoor
open Go.RowKit
namespace Tr
open Sc
def vw (k : Nat) : List UInt8 := (verbsL.getD k ([], 0)).1
def vk (k : Nat) : Int := (verbsL.getD k ([], 0)).2
def vbs : Array Value := #[str (vw 0), .int .i64 (vk 0), str (vw 1), .int .i64 (vk 1), str (vw 2), .int .i64 (vk 2), str (vw 3), .int .i64 (vk 3), str (vw 4), .int .i64 (vk 4), str (vw 5), .int .i64 (vk 5), str (vw 6), .int .i64 (vk 6), str (vw 7), .int .i64 (vk 7), str (vw 8), .int .i64 (vk 8)]
/-- The table of verbs, in memory. -/
def VerbTab (w : World) : Prop := ∃ t fr, w.heap[1]? = some (.cells vbs t fr)
theorem VerbTab.lt {w : World} (h : VerbTab w) : 1 < w.heap.size := by obtain ⟨t, fr, h⟩ := h; exact (Array.getElem?_eq_some_iff.1 h).1
theorem VerbTab.below {w w' : World} (h : VerbTab w) (hb : Below w.heap.size w w') : VerbTab w' := by
  have hl := h.lt
  obtain ⟨t, fr, h⟩ := h; exact ⟨t, fr, (hb.block _ hl).trans h⟩
theorem VerbTab.only {w w' : World} {rb : Nat} (h : VerbTab w) (hb : Only rb w w') (hn : 1 ≠ rb) : VerbTab w' := by
  obtain ⟨t, fr, h⟩ := h; exact ⟨t, fr, hb.blk h hn⟩
theorem vb_at0 (w : World) : (Instr.index 231 (.agg vbs) (.int .i64 0)).run Tryz.prog w = .ok (.agg #[str (vw 0), .int .i64 (vk 0)]) w := by kernel_rfl
theorem vb_at1 (w : World) : (Instr.index 231 (.agg vbs) (.int .i64 1)).run Tryz.prog w = .ok (.agg #[str (vw 1), .int .i64 (vk 1)]) w := by kernel_rfl
theorem vb_at2 (w : World) : (Instr.index 231 (.agg vbs) (.int .i64 2)).run Tryz.prog w = .ok (.agg #[str (vw 2), .int .i64 (vk 2)]) w := by kernel_rfl
theorem vb_at3 (w : World) : (Instr.index 231 (.agg vbs) (.int .i64 3)).run Tryz.prog w = .ok (.agg #[str (vw 3), .int .i64 (vk 3)]) w := by kernel_rfl
theorem vb_at4 (w : World) : (Instr.index 231 (.agg vbs) (.int .i64 4)).run Tryz.prog w = .ok (.agg #[str (vw 4), .int .i64 (vk 4)]) w := by kernel_rfl
theorem vb_at5 (w : World) : (Instr.index 231 (.agg vbs) (.int .i64 5)).run Tryz.prog w = .ok (.agg #[str (vw 5), .int .i64 (vk 5)]) w := by kernel_rfl
theorem vb_at6 (w : World) : (Instr.index 231 (.agg vbs) (.int .i64 6)).run Tryz.prog w = .ok (.agg #[str (vw 6), .int .i64 (vk 6)]) w := by kernel_rfl
theorem vb_at7 (w : World) : (Instr.index 231 (.agg vbs) (.int .i64 7)).run Tryz.prog w = .ok (.agg #[str (vw 7), .int .i64 (vk 7)]) w := by kernel_rfl
theorem vb_at8 (w : World) : (Instr.index 231 (.agg vbs) (.int .i64 8)).run Tryz.prog w = .ok (.agg #[str (vw 8), .int .i64 (vk 8)]) w := by kernel_rfl
theorem vb_at (k : Nat) (hk : k < 9) (w : World) : (Instr.index 231 (.agg vbs) (.int .i64 k)).run Tryz.prog w = .ok (.agg #[str (vw k), .int .i64 (vk k)]) w :=
  match k, hk with
  | 0, _ => vb_at0 w
  | 1, _ => vb_at1 w
  | 2, _ => vb_at2 w
  | 3, _ => vb_at3 w
  | 4, _ => vb_at4 w
  | 5, _ => vb_at5 w
  | 6, _ => vb_at6 w
  | 7, _ => vb_at7 w
  | 8, _ => vb_at8 w
theorem verb_at (k : Nat) (hk : k < 9) : verbK (vw k) = some (vk k) :=
  match k, hk with
  | 0, _ => by kernel_rfl
  | 1, _ => by kernel_rfl
  | 2, _ => by kernel_rfl
  | 3, _ => by kernel_rfl
  | 4, _ => by kernel_rfl
  | 5, _ => by kernel_rfl
  | 6, _ => by kernel_rfl
  | 7, _ => by kernel_rfl
  | 8, _ => by kernel_rfl
theorem verb_none (s : List UInt8) (hn : ∀ j, j < 9 → vw j ≠ s) : verbK s = none := by
  unfold verbK
  rw [List.find?_eq_none.2 ?_]
  · rfl
  · intro p hp
    simp only [verbsL, List.mem_cons, List.not_mem_nil, or_false] at hp
    rcases hp with rfl | rfl | rfl | rfl | rfl | rfl | rfl | rfl | rfl
    · exact fun e => hn 0 (by decide) (of_decide_eq_true e)
    · exact fun e => hn 1 (by decide) (of_decide_eq_true e)
    · exact fun e => hn 2 (by decide) (of_decide_eq_true e)
    · exact fun e => hn 3 (by decide) (of_decide_eq_true e)
    · exact fun e => hn 4 (by decide) (of_decide_eq_true e)
    · exact fun e => hn 5 (by decide) (of_decide_eq_true e)
    · exact fun e => hn 6 (by decide) (of_decide_eq_true e)
    · exact fun e => hn 7 (by decide) (of_decide_eq_true e)
    · exact fun e => hn 8 (by decide) (of_decide_eq_true e)
set_option maxHeartbeats 800000 in
theorem verbOf_any (s : List UInt8) (w : World) (hL : VerbTab w) :
    Calls Tryz.prog 164 #[.string ⟨s.toArray⟩] w fun e w' => e = .returned (.tuple #[.int .i64 ((verbK s).getD 0), .bool (verbK s).isSome]) ∧ Below w.heap.size w w' := by
  obtain ⟨t, fr, hg⟩ := hL
  have HG := Lib.hid hg
  clear hg
  go_enter Tryz.func164, Tryz.ntmps164
  go_wp2_with (refine wpList_load_row rfl 231 _ rfl 1 rfl t vbs fr _ HG.out Tryz.underlying231 rfl (by kernel_rfl) ?_)
  clear HG
  go_loopw [7] (fun i wr => ∃ k : Nat, k ≤ 9 ∧ i = .int .i64 k ∧ Hid (∀ j, j < k → vw j ≠ s) ∧ Below w.heap.size w wr) (fun i _ => 9 - (intOf i).toNat)
  case atStart => exact ⟨0, by omega, rfl, fun j hj => absurd hj (Nat.not_lt_zero _), Below.refl _ _⟩
  case round =>
    obtain ⟨k, hk, rfl, hf, hb⟩ := hrel
    have HB := Lib.hid hb; clear hb
    by_cases hlt : k < 9
    · have hix := vb_at k hlt
      unfold str at hix
      by_cases hw : vw k = s
      · have HF := Lib.hid (verb_at k hlt)
        rw [hw] at HF
        have te : (vw k == s) = true := by simp [hw]
        clear hf hw
        go_wp2
        go_ret2
        exact ⟨by rw [HF.out]; rfl, HB.out.alloc HB.out.size _⟩
      · have te : (vw k == s) = false := by simp [hw]
        have HW := Lib.hid hw; clear hw
        go_wp2
        go_roundw
        case rel => exact ⟨k + 1, by omega, by go_num, fun j hj => (by rcases Nat.lt_succ_iff_lt_or_eq.1 hj with h | h; exact hf.out j h; rw [h]; exact HW.out), HB.out.alloc HB.out.size _⟩
        case measure => simp [intOf]; omega
    · obtain rfl : k = 9 := by omega
      have HF := Lib.hid (verb_none s hf.out)
      go_wp2
      go_ret2
      exact ⟨by rw [HF.out]; rfl, HB.out⟩
set_option maxHeartbeats 800000 in
theorem named_any (s : List UInt8) (w : World) (hL : VerbTab w) :
    Calls Tryz.prog 129 #[.string ⟨s.toArray⟩] w fun e w' => e = .returned (.int .i64 (named s)) ∧ Below w.heap.size w w' := by
  have C := verbOf_any s w hL
  unfold named
  generalize verbK s = o at *
  clear hL
  cases o with
  | some k =>
    simp only [Option.isSome_some, if_true, Option.getD_some] at C ⊢
    have HC := Lib.hid C; clear C
    go_enter Tryz.func129, Tryz.ntmps129
    go_wp2_with (go_at_call 164; (with_reducible refine HC.out.mono ?_); rintro e w1 ⟨rfl, b1⟩)
    go_ret
    exact ⟨rfl, b1⟩
  | none =>
    simp only [Option.isSome_none, Option.getD_none] at C ⊢
    rw [if_neg (by simp)]
    have HC := Lib.hid C; clear C
    by_cases h1 : s = [116, 114, 117, 101]
    · have t1 : (s == [116, 114, 117, 101]) = true := by simp [h1]
      rw [if_pos (.inl h1)]
      clear h1
      go_enter Tryz.func129, Tryz.ntmps129
      go_wp2_with (go_at_call 164; (with_reducible refine HC.out.mono ?_); rintro e w1 ⟨rfl, b1⟩)
      go_ret
      exact ⟨rfl, b1⟩
    · have t1 : (s == [116, 114, 117, 101]) = false := by simp [h1]
      by_cases h2 : s = [102, 97, 108, 115, 101]
      · have t2 : (s == [102, 97, 108, 115, 101]) = true := by simp [h2]
        rw [if_pos (.inr h2)]
        clear h1 h2
        go_enter Tryz.func129, Tryz.ntmps129
        go_wp2_with (go_at_call 164; (with_reducible refine HC.out.mono ?_); rintro e w1 ⟨rfl, b1⟩)
        go_ret
        exact ⟨rfl, b1⟩
      · have t2 : (s == [102, 97, 108, 115, 101]) = false := by simp [h2]
        rw [if_neg (fun h => h.elim h1 h2)]
        clear h1 h2
        go_enter Tryz.func129, Tryz.ntmps129
        go_wp2_with (go_at_call 164; (with_reducible refine HC.out.mono ?_); rintro e w1 ⟨rfl, b1⟩)
        go_ret
        exact ⟨rfl, b1⟩
set_option maxHeartbeats 800000 in
theorem signed_any (s : List UInt8) (w : World) :
    Calls Tryz.prog 130 #[.string ⟨s.toArray⟩] w fun e w' => e = .returned (.int .i64 (signed s)) ∧ w = w' := by
  unfold signed
  by_cases h1 : s = [46]
  · have t1 : (s == [46]) = true := by simp [h1]
    rw [if_pos (.inl h1)]
    clear h1
    go_enter Tryz.func130, Tryz.ntmps130
    go_wp2
    go_ret
    exact ⟨rfl, rfl⟩
  · have t1 : (s == [46]) = false := by simp [h1]
    by_cases h2 : s = [36]
    · have t2 : (s == [36]) = true := by simp [h2]
      rw [if_pos (.inr h2)]
      clear h1 h2
      go_enter Tryz.func130, Tryz.ntmps130
      go_wp2
      go_ret
      exact ⟨rfl, rfl⟩
    · have t2 : (s == [36]) = false := by simp [h2]
      rw [if_neg (fun h => h.elim h1 h2)]
      by_cases h3 : s = [40]
      · have t3 : (s == [40]) = true := by simp [h3]
        rw [if_pos h3]
        clear h1 h2 h3
        go_enter Tryz.func130, Tryz.ntmps130
        go_wp2
        go_ret
        exact ⟨rfl, rfl⟩
      · have t3 : (s == [40]) = false := by simp [h3]
        rw [if_neg h3]
        clear h1 h2 h3
        go_enter Tryz.func130, Tryz.ntmps130
        go_wp2
        go_ret
        exact ⟨rfl, rfl⟩
end Tr
end Go.Proofs.YtlfbcaenlifmkaaGreatDoor
