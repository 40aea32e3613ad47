/- What the laws of chapter 1 share: Tokens at every source, Ident, known, within. -/
import Derived.Test.YtaillpnjknnhdaaDoorScanG
import Derived.KernelRfl
namespace Go.Proofs.YtaillpnjknnhdaaDoor
open Go.RowKit
namespace Sc

set_option maxHeartbeats 400000 in
theorem Tokens_long (s : ByteArray) (w : World) (hs : s.size ≤ maxLen) (h : 1500 < s.size) :
    Calls Tryd.prog 15 #[.string s] w (ToksPost w s.data.toList) := by
  have hT : toks s.data.toList = (4, []) := by unfold toks; rw [if_pos (by rw [bytes_len]; exact h)]
  have HT := Lib.hid hT; clear hT
  unfold maxLen at hs
  go_enter Tryd.func15, Tryd.ntmps15
  go_wp2
  go_ret2
  refine ⟨Below.refl _ _, .slice none 0 0, ?_, ?_⟩
  · rw [HT.out]; rfl
  · rw [HT.out]; exact World.ownsRow_nil _ _ _ _

theorem Tokens_any (s : ByteArray) (w : World) (hs : s.size ≤ maxLen) (hS : SignTab w) (hE : ErrTab w) :
    Calls Tryd.prog 15 #[.string s] w (ToksPost w s.data.toList) := by
  by_cases h : 1500 < s.size
  · exact Tokens_long s w hs h
  · exact Tokens_in s w (by omega) hS hE

/-- The two tables that scan leans on. -/
def Tabs (w : World) : Prop := SignTab w ∧ ErrTab w
theorem Tabs.below {w w' : World} (h : Tabs w) (hb : Below w.heap.size w w') : Tabs w' := ⟨h.1.below hb, h.2.below hb⟩

/-- A word of the row, in memory. -/
theorem row_at {w : World} {base g cap : Nat} {ts : List T} (h : w.ownsRow base 38 4 (.slice (some ⟨g, 0, none⟩) ts.length cap) ts.length (ts.flatMap tokCells)) (i : Nat) (hi : i < ts.length) :
    w.cell? ⟨g, i * 4, none⟩ = some (.int .i64 ts[i].kind) ∧ w.cell? ⟨g, i * 4 + 1, none⟩ = some (.string ⟨ts[i].text.toArray⟩) ∧ w.cell? ⟨g, i * 4 + 2, none⟩ = some (.int .i64 ts[i].n) ∧ w.cell? ⟨g, i * 4 + 3, none⟩ = some (.int .i64 ts[i].at_) := by
  have hx : ∀ (l : List T) (i : Nat) (hi : i < l.length) (j : Nat), j < 4 → (l.flatMap tokCells)[i * 4 + j]? = (tokCells l[i])[j]? := by
    intro l
    induction l with
    | nil => intro i hi; simp at hi
    | cons t r ih =>
      intro i hi j hj
      rw [List.flatMap_cons]
      cases i with
      | zero => rw [List.getElem?_append_left (by simp [tokCells]; omega)]; simp
      | succ i =>
        rw [List.getElem?_append_right (by simp [tokCells]; omega)]
        have := ih i (by simpa using hi) j hj
        simp only [List.getElem_cons_succ]
        rw [← this]
        congr 1
        simp [tokCells]; omega
  refine ⟨?_, ?_, ?_, ?_⟩
  · have := h.cellAt (i * 4) (by omega); rw [this]; exact hx ts i hi 0 (by omega)
  · have := h.cellAt (i * 4 + 1) (by omega); rw [this]; exact hx ts i hi 1 (by omega)
  · have := h.cellAt (i * 4 + 2) (by omega); rw [this]; exact hx ts i hi 2 (by omega)
  · have := h.cellAt (i * 4 + 3) (by omega); rw [this]; exact hx ts i hi 3 (by omega)

theorem row_some {w : World} {base : Nat} {v : Value} {ts : List T} (h : w.ownsRow base 38 4 v ts.length (ts.flatMap tokCells)) (h0 : 0 < ts.length) : ∃ g cap, v = .slice (some ⟨g, 0, none⟩) ts.length cap ∧ base ≤ g ∧ g < w.heap.size := by
  rcases h.2 with ⟨_, hn⟩ | ⟨g, cap, cur, rfl, hb, hg, _⟩
  · omega
  · exact ⟨g, cap, rfl, hb, (Array.getElem?_eq_some_iff.1 hg).1⟩

theorem known1 : toks [97, 46, 98, 32, 45, 53] = (0, [⟨1, [97], 0, 0⟩, ⟨4, [46], 0, 1⟩, ⟨1, [98], 0, 2⟩, ⟨3, [], -5, 4⟩]) := by kernel_rfl
theorem known2 : toks [45, 32, 53] = (11, []) := by kernel_rfl

set_option maxHeartbeats 800000 in
theorem known_any (w : World) (hT : Tabs w) :
    Calls Tryd.prog 12 #[] w fun e w' => e = .returned (.bool true) ∧ Below w.heap.size w w' := by
  have c1 := Tokens_any ⟨#[97, 46, 98, 32, 45, 53]⟩ w (by decide) hT.1 hT.2
  have c2 := fun w (hT : Tabs w) => Tokens_any ⟨#[45, 32, 53]⟩ w (by decide) hT.1 hT.2
  rw [show (⟨#[97, 46, 98, 32, 45, 53]⟩ : ByteArray).data.toList = [97, 46, 98, 32, 45, 53] from rfl] at c1
  rw [show (⟨#[45, 32, 53]⟩ : ByteArray).data.toList = [45, 32, 53] from rfl] at c2
  unfold ToksPost at c1 c2
  rw [known1] at c1
  simp only [known2] at c2
  have C1 := Lib.hid c1; have C2 := Lib.hid c2; have HT := Lib.hid hT
  clear c1 c2 hT
  go_enter Tryd.func12, Tryd.ntmps12
  go_wp2_with fail
  refine C1.out.mono ?_
  rintro e w1 ⟨hb1, v, rfl, ho⟩
  obtain ⟨g, cap, rfl, hgb, hgw⟩ := row_some ho (by decide)
  have r3 := (row_at ho 3 (by decide)).2.2.1
  have r3' : w1.cell? ⟨g, 14, none⟩ = some (.int .i64 (-5)) := r3
  clear r3 ho
  go_wp2_with fail
  refine (C2.out w1 (HT.out.below hb1)).mono ?_
  rintro e w2 ⟨hb2, v, rfl, _⟩
  have r4 : w2.cell? ⟨g, 14, none⟩ = some (.int .i64 (-5)) := (hb2.cell (p := ⟨g, 14, none⟩) hgw).trans r3'
  have HB : Below w.heap.size w w2 := hb1.trans (hb2.mono hb1.size)
  clear r3' hb1 hb2 C1 C2 HT
  go_wp2
  go_ret
  exact ⟨rfl, HB⟩

set_option maxHeartbeats 400000 in
/-- within: the remainder from 0 on. -/
theorem within_any (a n : Int) (w : World) (hn : 0 < n) (hn2 : n ≤ 1000000) (h1 : -9223372036854775808 ≤ a) (h2 : a ≤ 9223372036854775807) :
    Calls Tryd.prog 14 #[.int .i64 a, .int .i64 n] w fun e w' => e = .returned (.int .i64 (a % n)) ∧ w = w' := by
  have hb1 := Int.emod_nonneg a (show n ≠ 0 by omega)
  have hb2 := Int.emod_lt_of_pos a hn
  by_cases h0 : 0 ≤ a
  · go_enter Tryd.func14, Tryd.ntmps14
    go_wp2
    go_ret
    exact ⟨rfl, rfl⟩
  · have ht : a.tmod n = a % n - if 0 ≤ a ∨ n ∣ a then 0 else (n.natAbs : Int) := by rw [Int.tmod_eq_emod]; split <;> rfl
    by_cases hd : n ∣ a
    · have e0 : a % n = 0 := Int.emod_eq_zero_of_dvd hd
      rw [if_pos (Or.inr hd), e0] at ht
      rw [e0]
      clear hd e0
      have l1 : 0 ≤ a.tmod n := by omega
      have l2 : a.tmod n ≤ 0 := by omega
      clear hb1 hb2
      have HT := Lib.hid ht; clear ht
      go_enter Tryd.func14, Tryd.ntmps14
      go_wp2
      go_ret
      exact ⟨ret_int (by have := HT.out; omega), rfl⟩
    · rw [if_neg (fun h => h.elim h0 hd)] at ht
      have e0 : 0 < a % n := by
        rcases Int.lt_or_eq_of_le hb1 with h | h
        · exact h
        · exact absurd (Int.dvd_of_emod_eq_zero h.symm) hd
      have l1 : a.tmod n < 0 := by omega
      have l2 : -n < a.tmod n := by omega
      have l3 : a.tmod n + n = a % n := by omega
      clear hb1 hb2 ht hd e0
      have HT := Lib.hid l3; clear l3
      go_enter Tryd.func14, Tryd.ntmps14
      go_wp2
      go_ret
      exact ⟨ret_int (by have := HT.out; omega), rfl⟩

/-- Whether a text is a name. -/
def identB (l : List UInt8) : Bool := decide (l.length ≠ 0) && (decide (l.length ≤ 16) && decide (nsz l = l.length))

set_option maxHeartbeats 400000 in
theorem Ident_any (s : ByteArray) (w : World) (hs : s.size ≤ maxLen) :
    Calls Tryd.prog 18 #[.string s] w fun e w' => e = .returned (.bool (identB s.data.toList)) ∧ Below w.heap.size w w' := by
  have he := toList_isEmpty s
  have C := nameSize_any s
  have hle := nsz_le s.data.toList
  unfold identB
  rw [bytes_len] at hle ⊢
  have hs' := hs
  unfold maxLen at hs'
  by_cases h0 : s.size = 0
  · rw [decide_eq_true h0] at he
    rw [show decide (s.size ≠ 0) = false from decide_eq_false (by omega)]
    clear h0 C
    go_enter Tryd.func18, Tryd.ntmps18
    go_wp2_with fail
    go_ret
    exact ⟨rfl, Below.refl _ _⟩
  · rw [decide_eq_false h0] at he
    rw [show decide (s.size ≠ 0) = true from decide_eq_true h0]
    by_cases h16 : s.size ≤ 16
    · rw [decide_eq_true h16]
      generalize nsz s.data.toList = k at *
      have HC := Lib.hid C; clear C h0
      by_cases hk : k = s.size
      · rw [decide_eq_true hk]
        subst hk
        go_enter Tryd.func18, Tryd.ntmps18
        go_wp2_with (go_at_call 24; (with_reducible refine (HC.out _ hs).mono ?_); rintro e w1 ⟨rfl, hb⟩)
        go_ret
        exact ⟨rfl, by assumption⟩
      · rw [decide_eq_false hk]
        have tk : ((k : Int) == (s.size : Int)) = false := by simp; omega
        have tk' : (k == s.size) = false := by simp; omega
        clear hk
        go_enter Tryd.func18, Tryd.ntmps18
        go_wp2_with (go_at_call 24; (with_reducible refine (HC.out _ hs).mono ?_); rintro e w1 ⟨rfl, hb⟩)
        go_ret
        exact ⟨rfl, by assumption⟩
    · rw [decide_eq_false h16]
      have h16' : 16 < (s.size : Int) := by omega
      clear C
      go_enter Tryd.func18, Tryd.ntmps18
      go_wp2_with fail
      go_ret
      exact ⟨rfl, Below.refl _ _⟩
end Sc
end Go.Proofs.YtaillpnjknnhdaaDoor
