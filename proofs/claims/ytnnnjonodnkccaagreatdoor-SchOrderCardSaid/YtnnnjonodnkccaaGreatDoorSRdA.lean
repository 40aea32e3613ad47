/- The reader's small methods: what each answers, what becomes of the reader's block; nothing else turns. -/
import Derived.Test.YtnnnjonodnkccaaGreatDoorSMem
namespace Go.Proofs.YtnnnjonodnkccaaGreatDoor
open Go.RowKit
namespace Sh
open Sc

theorem beq_dec (l m : List UInt8) : (l == m) = decide (l = m) := by by_cases h : l = m <;> simp [h]
theorem ret_bool {a b : Bool} (h : a = b) : Ending.returned (.bool a) = .returned (.bool b) := by rw [h]

set_option maxHeartbeats 400000 in
theorem at_any (w : World) (rb : Nat) (r : R) (a : Option Addr) (c : Nat) (h : Rd w rb r a c) (k : Nat) (s : List UInt8) :
    Calls Tryz.prog 44 #[.pointer (some ⟨rb, 0, none⟩), .int .i64 k, .string ⟨s.toArray⟩] w fun e w' => e = .returned (.bool (r.isAt k s)) ∧ w = w' := by
  obtain ⟨⟨c0, c1, c2⟩, f0, f1, f2⟩ := three_blk h.blk
  cases hw : r.words with
  | nil =>
    rw [hw] at c0
    have e : r.isAt k s = false := by unfold R.isAt; rw [hw]
    rw [e]
    clear h hw e c1 c2 f0 f1 f2
    go_enter Tryz.func44, Tryz.ntmps44
    go_wp2
    go_ret
    exact ⟨rfl, rfl⟩
  | cons t ts =>
    obtain ⟨g, o, rfl, hg, hlt, q0, q1⟩ := h.first hw
    have hm : ts.length + 1 ≤ c := by have := h.cap; rw [hw] at this; exact this
    have hm2 := h.max; unfold maxLen at hm2
    have e : r.isAt k s = (decide (t.kind = k) && decide (t.text = s)) := by unfold R.isAt; rw [hw]
    rw [hw, List.length_cons] at c0
    rw [e]
    clear h hw e c1 c2 f0 f1 f2 hg hlt
    by_cases hk : t.kind = k
    · rw [decide_eq_true hk]
      have tk : ((t.kind : Int) == (k : Int)) = true := by simp [hk]
      clear hk
      go_enter Tryz.func44, Tryz.ntmps44
      go_wp2
      go_ret
      exact ⟨ret_bool (by rw [Bool.true_and, beq_dec]), rfl⟩
    · rw [decide_eq_false hk]
      have tk : ((t.kind : Int) == (k : Int)) = false := by simp; omega
      clear hk
      go_enter Tryz.func44, Tryz.ntmps44
      go_wp2
      go_ret
      exact ⟨rfl, rfl⟩

set_option maxHeartbeats 400000 in
theorem atName_any (w : World) (rb : Nat) (r : R) (a : Option Addr) (c : Nat) (h : Rd w rb r a c) :
    Calls Tryz.prog 45 #[.pointer (some ⟨rb, 0, none⟩)] w fun e w' => e = .returned (.bool r.isName) ∧ w = w' := by
  obtain ⟨⟨c0, c1, c2⟩, f0, f1, f2⟩ := three_blk h.blk
  cases hw : r.words with
  | nil =>
    rw [hw] at c0
    have e : r.isName = false := by unfold R.isName; rw [hw]
    rw [e]
    clear h hw e c1 c2 f0 f1 f2
    go_enter Tryz.func45, Tryz.ntmps45
    go_wp2
    go_ret
    exact ⟨rfl, rfl⟩
  | cons t ts =>
    obtain ⟨g, o, rfl, hg, hlt, q0, q1⟩ := h.first hw
    have hm : ts.length + 1 ≤ c := by have := h.cap; rw [hw] at this; exact this
    have hm2 := h.max; unfold maxLen at hm2
    have e : r.isName = decide (t.kind = 1) := by unfold R.isName; rw [hw]
    rw [hw, List.length_cons] at c0
    rw [e]
    clear h hw e c1 c2 f0 f1 f2 hg hlt
    by_cases hk : t.kind = 1
    · rw [decide_eq_true hk]
      rw [hk] at q0
      clear hk
      go_enter Tryz.func45, Tryz.ntmps45
      go_wp2
      go_ret
      exact ⟨rfl, rfl⟩
    · rw [decide_eq_false hk]
      have tk : ((t.kind : Int) == 1) = false := by simp; omega
      clear hk
      go_enter Tryz.func45, Tryz.ntmps45
      go_wp2
      go_ret
      exact ⟨rfl, rfl⟩

set_option maxHeartbeats 400000 in
theorem fail_any (w : World) (rb : Nat) (r : R) (h : RdE w rb r) (x : Nat) :
    Calls Tryz.prog 43 #[.pointer (some ⟨rb, 0, none⟩), .int .i64 x] w (Post w rb (r.fail x) (.tuple #[])) := by
  obtain ⟨a, c, h⟩ := h
  have hb := h.blk
  obtain ⟨⟨c0, c1, c2⟩, f0, f1, f2⟩ := three_blk h.blk
  have HB := Lib.hid hb; clear hb h
  by_cases he : r.err = 0
  · have t0 : ((r.err : Int) == 0) = true := by simp [he]
    have HE := Lib.hid he; clear he
    go_enter Tryz.func43, Tryz.ntmps43
    go_wp2
    go_end0
    refine ⟨rfl, ⟨none, 0, ?_, Nat.le_refl _, Nat.zero_le _, .inl rfl⟩, ((Only.refl _ _).setCell _ _).setCell _ _⟩
    have := set_blk0 (set_blk1 HB.out (.int .i64 x)) (.slice none 0 0)
    rw [this]; unfold R.fail; rw [if_pos HE.out]; rfl
  · have t0 : ((r.err : Int) == 0) = false := by simp; omega
    have HE := Lib.hid he; clear he
    go_enter Tryz.func43, Tryz.ntmps43
    go_wp2
    go_end0
    refine ⟨rfl, ⟨none, 0, ?_, Nat.le_refl _, Nat.zero_le _, .inl rfl⟩, (Only.refl _ _).setCell _ _⟩
    have := set_blk0 HB.out (.slice none 0 0)
    rw [this]; unfold R.fail; rw [if_neg HE.out]; rfl

/-- One word on: the place behind the first word. -/
theorem tail_words {w : World} {rb : Nat} {r : R} {a : Option Addr} {c : Nat} (h : Rd w rb r a c) {t : T} {ts : List T} (e : r.words = t :: ts) {g o : Nat} (ha : a = some ⟨g, o, none⟩) (w' : World) (hw : Only rb w w') :
    Words w' rb (some ⟨g, o + 4, none⟩) ts := by
  subst ha
  rcases h.words with h | ⟨g', o', ha, hg, hlt, hc⟩
  · rw [e] at h; cases h
  · cases ha
    refine .inr ⟨_, _, rfl, hg, Nat.lt_of_lt_of_le hlt hw.size, fun i hi => ?_⟩
    rw [hw.cell hlt (Nat.ne_of_lt hg), hw.cell hlt (Nat.ne_of_lt hg)]
    have := hc (i + 1) (by rw [e]; simpa using hi)
    simp only [e, List.getElem_cons_succ] at this
    rw [show o + 4 + i * 4 = o + (i + 1) * 4 by omega, show o + 4 + (i * 4 + 1) = o + ((i + 1) * 4 + 1) by omega]
    exact this

set_option maxHeartbeats 400000 in
theorem take_yes (w : World) (rb : Nat) (r : R) (h : RdE w rb r) (k : Nat) (s : List UInt8) (hk : r.isAt k s = true) :
    Calls Tryz.prog 31 #[.pointer (some ⟨rb, 0, none⟩), .int .i64 k, .string ⟨s.toArray⟩] w (Post w rb r.tail (.bool true)) := by
  obtain ⟨a, c, h⟩ := h
  have hb := h.blk
  have C := at_any w rb r a c h k s
  rw [hk] at C
  have h1 := isAt_pos hk
  obtain ⟨t, ts, hw⟩ : ∃ t ts, r.words = t :: ts := by
    cases hw : r.words with
    | nil => rw [hw] at h1; simp at h1
    | cons t ts => exact ⟨t, ts, rfl⟩
  obtain ⟨g, o, rfl, hg, hlt, q0, q1⟩ := h.first hw
  have hT := fun w' => tail_words h hw rfl w'
  have hm : ts.length + 1 ≤ c := by have := h.cap; rw [hw] at this; exact this
  have hm2 := h.max; unfold maxLen at hm2
  rw [hw, List.length_cons] at hb
  obtain ⟨⟨c0, c1, c2⟩, f0, f1, f2⟩ := three_blk hb
  have hr : r.tail = ⟨ts, r.err, r.twice⟩ := by unfold R.tail; rw [hw]; rfl
  have HB := Lib.hid hb; have HC := Lib.hid C; have HT := Lib.hid hT; have HR := Lib.hid hr
  clear hb C hT h h1 hw hk hr q0 q1 hg hlt
  by_cases h1 : c = 1
  · subst h1
    obtain rfl : ts = [] := List.eq_nil_of_length_eq_zero (by omega)
    go_enter Tryz.func31, Tryz.ntmps31
    go_wp2_with (go_at_call 44; (with_reducible refine HC.out.mono ?_); rintro e w1 ⟨rfl, rfl⟩)
    go_ret
    rw [HR.out]
    exact ⟨rfl, ⟨_, _, set_blk0 HB.out _, Nat.le_refl _, Nat.zero_le _, .inl rfl⟩, (Only.refl _ _).setCell _ _⟩
  · have h2 : 2 ≤ c := by omega
    have e1 : decide (c = 1) = false := by simp; omega
    clear h1
    go_enter Tryz.func31, Tryz.ntmps31
    go_wp2_with (go_at_call 44; (with_reducible refine HC.out.mono ?_); rintro e w1 ⟨rfl, rfl⟩)
    go_ret
    rw [HR.out]
    exact ⟨rfl, ⟨_, _, set_blk0 HB.out _, by simp; omega, by unfold maxLen; omega, HT.out _ ((Only.refl _ _).setCell _ _)⟩, (Only.refl _ _).setCell _ _⟩

set_option maxHeartbeats 400000 in
theorem take_no (w : World) (rb : Nat) (r : R) (h : RdE w rb r) (k : Nat) (s : List UInt8) (hk : r.isAt k s = false) :
    Calls Tryz.prog 31 #[.pointer (some ⟨rb, 0, none⟩), .int .i64 k, .string ⟨s.toArray⟩] w fun e w' => e = .returned (.bool false) ∧ w = w' := by
  obtain ⟨a, c, h⟩ := h
  have C := at_any w rb r a c h k s
  rw [hk] at C
  have HC := Lib.hid C
  clear C h hk
  go_enter Tryz.func31, Tryz.ntmps31
  go_wp2_with (go_at_call 44; (with_reducible refine HC.out.mono ?_); rintro e w1 ⟨rfl, rfl⟩)
  go_ret
  exact ⟨rfl, rfl⟩

set_option maxHeartbeats 400000 in
theorem need_any (w : World) (rb : Nat) (r : R) (h : RdE w rb r) (k : Nat) (s : List UInt8) :
    Calls Tryz.prog 30 #[.pointer (some ⟨rb, 0, none⟩), .int .i64 k, .string ⟨s.toArray⟩] w (Post w rb (r.need k s) (.tuple #[])) := by
  cases hk : r.isAt k s
  · have hr : r.need k s = r.fail 12 := by unfold R.need; rw [hk]; rfl
    rw [hr]
    have HC := Lib.hid (take_no w rb r h k s hk); have HF := Lib.hid (fail_any w rb r h 12)
    clear h hk hr
    go_enter Tryz.func30, Tryz.ntmps30
    go_wp2_with (first | (go_at_call 31; (with_reducible refine HC.out.mono ?_); rintro e w1 ⟨rfl, rfl⟩) | (go_at_call 43; (refine HF.out.mono ?_); rintro e w1 ⟨rfl, h1, h2⟩))
    go_end0
    exact ⟨rfl, h1, h2⟩
  · have hr : r.need k s = r.tail := by unfold R.need; rw [hk]; rfl
    rw [hr]
    have HC := Lib.hid (take_yes w rb r h k s hk)
    clear h hk hr
    go_enter Tryz.func30, Tryz.ntmps30
    go_wp2_with (go_at_call 31; (with_reducible refine HC.out.mono ?_); rintro e w1 ⟨rfl, h1, h2⟩)
    go_end0
    exact ⟨rfl, h1, h2⟩

set_option maxHeartbeats 400000 in
theorem name_any (w : World) (rb : Nat) (r : R) (h : RdE w rb r) :
    Calls Tryz.prog 47 #[.pointer (some ⟨rb, 0, none⟩)] w (Post w rb r.name.2 (.string ⟨r.name.1.toArray⟩)) := by
  have hf := fail_any w rb r h 12
  obtain ⟨a, c, h⟩ := h
  have hb := h.blk
  have C := atName_any w rb r a c h
  cases hk : r.isName
  · have hr : r.name = ([], r.fail 12) := by unfold R.name; rw [hk]; rfl
    rw [hr]
    rw [hk] at C
    have HC := Lib.hid C; have HF := Lib.hid hf
    clear h hk hr C hf hb
    go_enter Tryz.func47, Tryz.ntmps47
    go_wp2_with (first | (go_at_call 45; (with_reducible refine HC.out.mono ?_); rintro e w1 ⟨rfl, rfl⟩) | (go_at_call 43; (refine HF.out.mono ?_); rintro e w1 ⟨rfl, h1, h2⟩))
    go_ret
    exact ⟨rfl, h1, h2⟩
  · have hr : r.name = (r.head, r.tail) := by unfold R.name; rw [hk]; rfl
    rw [hr]
    rw [hk] at C
    have h1 := isName_pos hk
    obtain ⟨t, ts, hw⟩ : ∃ t ts, r.words = t :: ts := by
      cases hw : r.words with
      | nil => rw [hw] at h1; simp at h1
      | cons t ts => exact ⟨t, ts, rfl⟩
    obtain ⟨g, o, rfl, hg, hlt, q0, q1⟩ := h.first hw
    have hT := fun w' => tail_words h hw rfl w'
    have hm : ts.length + 1 ≤ c := by have := h.cap; rw [hw] at this; exact this
    have hm2 := h.max; unfold maxLen at hm2
    rw [hw, List.length_cons] at hb
    obtain ⟨⟨c0, c1, c2⟩, f0, f1, f2⟩ := three_blk hb
    have hr : r.tail = ⟨ts, r.err, r.twice⟩ := by unfold R.tail; rw [hw]; rfl
    have hd : r.head = t.text := by unfold R.head; rw [hw]
    rw [hd]
    have HB := Lib.hid hb; have HC := Lib.hid C; have HT := Lib.hid hT; have HR := Lib.hid hr
    clear hb C hT h h1 hw hk hr q0 hg hlt hd hf
    by_cases h1 : c = 1
    · subst h1
      obtain rfl : ts = [] := List.eq_nil_of_length_eq_zero (by omega)
      go_enter Tryz.func47, Tryz.ntmps47
      go_wp2_with (go_at_call 45; (with_reducible refine HC.out.mono ?_); rintro e w1 ⟨rfl, rfl⟩)
      go_ret
      rw [HR.out]
      exact ⟨rfl, ⟨_, _, set_blk0 HB.out _, Nat.le_refl _, Nat.zero_le _, .inl rfl⟩, (Only.refl _ _).setCell _ _⟩
    · have h2 : 2 ≤ c := by omega
      have e1 : decide (c = 1) = false := by simp; omega
      clear h1
      go_enter Tryz.func47, Tryz.ntmps47
      go_wp2_with (go_at_call 45; (with_reducible refine HC.out.mono ?_); rintro e w1 ⟨rfl, rfl⟩)
      go_ret
      rw [HR.out]
      exact ⟨rfl, ⟨_, _, set_blk0 HB.out _, by simp; omega, by unfold maxLen; omega, HT.out _ ((Only.refl _ _).setCell _ _)⟩, (Only.refl _ _).setCell _ _⟩

theorem take_any (w : World) (rb : Nat) (r : R) (h : RdE w rb r) (k : Nat) (s : List UInt8) :
    Calls Tryz.prog 31 #[.pointer (some ⟨rb, 0, none⟩), .int .i64 k, .string ⟨s.toArray⟩] w (Post w rb (r.take k s) (.bool (r.isAt k s))) := by
  cases hk : r.isAt k s
  · have hr : r.take k s = r := by unfold R.take; rw [hk]; rfl
    rw [hr]
    refine (take_no w rb r h k s hk).mono ?_
    rintro e w' ⟨rfl, rfl⟩
    exact ⟨rfl, h, Only.refl _ _⟩
  · have hr : r.take k s = r.tail := by unfold R.take; rw [hk]; rfl
    rw [hr]
    exact take_yes w rb r h k s hk
end Sh
end Go.Proofs.YtnnnjonodnkccaaGreatDoor
