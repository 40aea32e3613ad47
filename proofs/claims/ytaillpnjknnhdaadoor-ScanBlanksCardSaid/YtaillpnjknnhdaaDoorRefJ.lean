/- Tokens of package sprueref1 at every source, its words in memory, same, piece. Written by gen_refj.py. -/
import Derived.Test.YtaillpnjknnhdaaDoorRefI
import Derived.Test.YtaillpnjknnhdaaDoorLits
namespace Go.Proofs.YtaillpnjknnhdaaDoor
open Go.RowKit
namespace Sc

theorem RTokens_any (s : ByteArray) (w : World) (hs : s.size ≤ maxLen) :
    Calls Tryd.prog 16 #[.string s] w (RToksPost w s.data.toList) := by
  by_cases h : 1500 < s.size
  · have hT : toks s.data.toList = (4, []) := by unfold toks; rw [if_pos (by rw [bytes_len]; exact h)]
    have HT := Lib.hid hT; clear hT
    unfold maxLen at hs
    go_enter Tryd.func16, Tryd.ntmps16
    go_wp2
    go_ret2
    refine ⟨Below.refl _ _, .slice none 0 0, ?_, ?_⟩
    · rw [HT.out]; rfl
    · rw [HT.out]; exact World.ownsRow_nil _ _ _ _
  · exact RTokens_in s w (by omega)

theorem rrow_at {w : World} {base g cap : Nat} {ts : List T} (h : w.ownsRow base 53 4 (.slice (some ⟨g, 0, none⟩) ts.length cap) ts.length (ts.flatMap tokCells)) (i : Nat) (hi : i < ts.length) :
    w.cell? ⟨g, i * 4, none⟩ = some (.int .i64 ts[i].kind) ∧ w.cell? ⟨g, i * 4 + 1, none⟩ = some (.string ⟨ts[i].text.toArray⟩) ∧ w.cell? ⟨g, i * 4 + 2, none⟩ = some (.int .i64 ts[i].n) ∧ w.cell? ⟨g, i * 4 + 3, none⟩ = some (.int .i64 ts[i].at_) := by
  have hx : ∀ (l : List T) (i : Nat) (hi : i < l.length) (j : Nat), j < 4 → (l.flatMap tokCells)[i * 4 + j]? = (tokCells l[i])[j]? := by
    intro l
    induction l with
    | nil => intro i hi; simp at hi
    | cons t r ih =>
      intro i hi j hj
      rw [List.flatMap_cons]
      cases i with
      | zero => rw [List.getElem?_append_left (by simp [tokCells]; omega)]; simp
      | succ i =>
        rw [List.getElem?_append_right (by simp [tokCells]; omega)]
        have := ih i (by simpa using hi) j hj
        simp only [List.getElem_cons_succ]
        rw [← this]
        congr 1
        simp [tokCells]; omega
  refine ⟨?_, ?_, ?_, ?_⟩
  · have := h.cellAt (i * 4) (by omega); rw [this]; exact hx ts i hi 0 (by omega)
  · have := h.cellAt (i * 4 + 1) (by omega); rw [this]; exact hx ts i hi 1 (by omega)
  · have := h.cellAt (i * 4 + 2) (by omega); rw [this]; exact hx ts i hi 2 (by omega)
  · have := h.cellAt (i * 4 + 3) (by omega); rw [this]; exact hx ts i hi 3 (by omega)

theorem rrow_some {w : World} {base : Nat} {v : Value} {ts : List T} (h : w.ownsRow base 53 4 v ts.length (ts.flatMap tokCells)) (h0 : 0 < ts.length) : ∃ g cap, v = .slice (some ⟨g, 0, none⟩) ts.length cap ∧ base ≤ g ∧ g < w.heap.size := by
  rcases h.2 with ⟨_, hn⟩ | ⟨g, cap, cur, rfl, hb, hg, _⟩
  · omega
  · exact ⟨g, cap, rfl, hb, (Array.getElem?_eq_some_iff.1 hg).1⟩


theorem some1 {w : World} {base n c : Nat} {a : Option Addr} {ts : List T} (h : w.ownsRow base 38 4 (.slice a n c) ts.length (ts.flatMap tokCells)) (h0 : 0 < ts.length) : ∃ g, a = some ⟨g, 0, none⟩ ∧ base ≤ g ∧ g < w.heap.size := by
  obtain ⟨g, cap, e, hb, hg⟩ := row_some h h0
  cases e
  exact ⟨g, rfl, hb, hg⟩
theorem some2 {w : World} {base n c : Nat} {a : Option Addr} {ts : List T} (h : w.ownsRow base 53 4 (.slice a n c) ts.length (ts.flatMap tokCells)) (h0 : 0 < ts.length) : ∃ g, a = some ⟨g, 0, none⟩ ∧ base ≤ g ∧ g < w.heap.size := by
  obtain ⟨g, cap, e, hb, hg⟩ := rrow_some h h0
  cases e
  exact ⟨g, rfl, hb, hg⟩

def pz : List (List UInt8) := [[97], [105, 102], [95, 120, 57], [97, 98, 99, 100, 101, 102, 103, 104, 105, 106, 107, 108, 109, 110, 111, 112], [97, 98, 99, 100, 101, 102, 103, 104, 105, 106, 107, 108, 109, 110, 111, 112, 113], [48], [55], [45, 55], [57, 50, 50, 51, 51, 55, 50, 48, 51, 54, 56, 53, 52, 55, 55, 53, 56, 48, 55], [57, 50, 50, 51, 51, 55, 50, 48, 51, 54, 56, 53, 52, 55, 55, 53, 56, 48, 56], [45, 57, 50, 50, 51, 51, 55, 50, 48, 51, 54, 56, 53, 52, 55, 55, 53, 56, 48, 56], [45, 57, 50, 50, 51, 51, 55, 50, 48, 51, 54, 56, 53, 52, 55, 55, 53, 56, 48, 57], [48, 48, 48, 48, 48, 48, 48, 48, 48, 48, 48, 48, 48, 48, 48, 48, 48, 48, 48, 49], [48, 49], [45, 62], [58, 61], [123], [125], [60], [62], [44], [58], [40], [41], [46], [36], [124], [61], [59], [34, 34], [34, 97, 32, 98, 34], [34, 92, 92, 92, 34, 92, 110, 92, 116, 34], [34, 255, 34], [34], [34, 92, 120, 34], [34, 10, 34], [45], [43], [35], [57, 97]]
def pzB (n : Nat) : ByteArray := ⟨(pz.getD n []).toArray⟩
theorem pz_len (n : Nat) : (pzB n).size ≤ 20 := by
  have h : ∀ x ∈ pz, x.length ≤ 20 := by decide
  unfold pzB
  show (pz.getD n []).toArray.size ≤ 20
  rw [List.size_toArray]
  by_cases hn : n < pz.length
  · rw [List.getD_eq_getElem?_getD, List.getElem?_eq_getElem hn]; exact h _ (List.getElem_mem hn)
  · rw [List.getD_eq_getElem?_getD, List.getElem?_eq_none (by omega)]; simp
theorem pz_cell (w : World) (t : TypeId) (n : Nat) (h : n < 40) : (w.alloc (.cells #[.string ⟨#[97]⟩, .string ⟨#[105, 102]⟩, .string ⟨#[95, 120, 57]⟩, .string ⟨#[97, 98, 99, 100, 101, 102, 103, 104, 105, 106, 107, 108, 109, 110, 111, 112]⟩, .string ⟨#[97, 98, 99, 100, 101, 102, 103, 104, 105, 106, 107, 108, 109, 110, 111, 112, 113]⟩, .string ⟨#[48]⟩, .string ⟨#[55]⟩, .string ⟨#[45, 55]⟩, .string ⟨#[57, 50, 50, 51, 51, 55, 50, 48, 51, 54, 56, 53, 52, 55, 55, 53, 56, 48, 55]⟩, .string ⟨#[57, 50, 50, 51, 51, 55, 50, 48, 51, 54, 56, 53, 52, 55, 55, 53, 56, 48, 56]⟩, .string ⟨#[45, 57, 50, 50, 51, 51, 55, 50, 48, 51, 54, 56, 53, 52, 55, 55, 53, 56, 48, 56]⟩, .string ⟨#[45, 57, 50, 50, 51, 51, 55, 50, 48, 51, 54, 56, 53, 52, 55, 55, 53, 56, 48, 57]⟩, .string ⟨#[48, 48, 48, 48, 48, 48, 48, 48, 48, 48, 48, 48, 48, 48, 48, 48, 48, 48, 48, 49]⟩, .string ⟨#[48, 49]⟩, .string ⟨#[45, 62]⟩, .string ⟨#[58, 61]⟩, .string ⟨#[123]⟩, .string ⟨#[125]⟩, .string ⟨#[60]⟩, .string ⟨#[62]⟩, .string ⟨#[44]⟩, .string ⟨#[58]⟩, .string ⟨#[40]⟩, .string ⟨#[41]⟩, .string ⟨#[46]⟩, .string ⟨#[36]⟩, .string ⟨#[124]⟩, .string ⟨#[61]⟩, .string ⟨#[59]⟩, .string ⟨#[34, 34]⟩, .string ⟨#[34, 97, 32, 98, 34]⟩, .string ⟨#[34, 92, 92, 92, 34, 92, 110, 92, 116, 34]⟩, .string ⟨#[34, 255, 34]⟩, .string ⟨#[34]⟩, .string ⟨#[34, 92, 120, 34]⟩, .string ⟨#[34, 10, 34]⟩, .string ⟨#[45]⟩, .string ⟨#[43]⟩, .string ⟨#[35]⟩, .string ⟨#[57, 97]⟩] t)).cell? ⟨w.heap.size, n, none⟩ = some (.string (pzB n)) := by
  match n, h with
  | 0, _ => simp; rfl
  | 1, _ => simp; rfl
  | 2, _ => simp; rfl
  | 3, _ => simp; rfl
  | 4, _ => simp; rfl
  | 5, _ => simp; rfl
  | 6, _ => simp; rfl
  | 7, _ => simp; rfl
  | 8, _ => simp; rfl
  | 9, _ => simp; rfl
  | 10, _ => simp; rfl
  | 11, _ => simp; rfl
  | 12, _ => simp; rfl
  | 13, _ => simp; rfl
  | 14, _ => simp; rfl
  | 15, _ => simp; rfl
  | 16, _ => simp; rfl
  | 17, _ => simp; rfl
  | 18, _ => simp; rfl
  | 19, _ => simp; rfl
  | 20, _ => simp; rfl
  | 21, _ => simp; rfl
  | 22, _ => simp; rfl
  | 23, _ => simp; rfl
  | 24, _ => simp; rfl
  | 25, _ => simp; rfl
  | 26, _ => simp; rfl
  | 27, _ => simp; rfl
  | 28, _ => simp; rfl
  | 29, _ => simp; rfl
  | 30, _ => simp; rfl
  | 31, _ => simp; rfl
  | 32, _ => simp; rfl
  | 33, _ => simp; rfl
  | 34, _ => simp; rfl
  | 35, _ => simp; rfl
  | 36, _ => simp; rfl
  | 37, _ => simp; rfl
  | 38, _ => simp; rfl
  | 39, _ => simp; rfl
  | n + 40, h => exact absurd h (by omega)
def gpB (n : Nat) : ByteArray := ⟨(([[], [32], [10], [9, 32], [13]] : List (List UInt8)).getD n []).toArray⟩
theorem gp_len (n : Nat) (h : n < 5) : (gpB n).size ≤ 2 := by
  match n, h with
  | 0, _ => decide
  | 1, _ => decide
  | 2, _ => decide
  | 3, _ => decide
  | 4, _ => decide
theorem gp_cell (w : World) (t : TypeId) (n : Nat) (h : n < 5) : (w.alloc (.cells #[.string ⟨#[]⟩, .string ⟨#[32]⟩, .string ⟨#[10]⟩, .string ⟨#[9, 32]⟩, .string ⟨#[13]⟩] t)).cell? ⟨w.heap.size, n, none⟩ = some (.string (gpB n)) := by
  match n, h with
  | 0, _ => simp; rfl
  | 1, _ => simp; rfl
  | 2, _ => simp; rfl
  | 3, _ => simp; rfl
  | 4, _ => simp; rfl

set_option maxRecDepth 100000 in
set_option maxHeartbeats 4000000 in
theorem piece_any (z : Int) (w : World) (h1 : -9223372036854775808 ≤ z) (h2 : z ≤ 9223372036854775807) :
    Calls Tryd.prog 13 #[.int .i64 z] w fun e w' => e = .returned (.string (pzB (z % 40).toNat)) ∧ Below w.heap.size w w' := by
  have cW := fun w => within_any z 40 w (by omega) (by omega) h1 h2
  have h40 := Int.emod_nonneg z (show (40 : Int) ≠ 0 by omega)
  have h40' := Int.emod_lt_of_pos z (show (0 : Int) < 40 by omega)
  obtain ⟨n, hn⟩ : ∃ n : Nat, z % 40 = n := ⟨(z % 40).toNat, by omega⟩
  rw [hn] at cW h40 h40' ⊢
  rw [Int.toNat_natCast]
  have hch := pz_cell w 9 n (by omega)
  have HW := Lib.hid cW
  clear cW hn
  go_enter Tryd.func13, Tryd.ntmps13
  go_wp2_with (go_at_call 14; (with_reducible refine (HW.out _).mono ?_); rintro e w' ⟨rfl, rfl⟩)
  go_ret
  exact ⟨rfl, (Below.refl _ _).alloc (Nat.le_refl _) _⟩

set_option maxRecDepth 100000 in
set_option maxHeartbeats 4000000 in
theorem same_any (w : World) (b1 b2 : Nat) (v1 v2 : Value) (ts : List T) (h1 : w.ownsRow b1 38 4 v1 ts.length (ts.flatMap tokCells)) (h2 : w.ownsRow b2 53 4 v2 ts.length (ts.flatMap tokCells)) (hl : ts.length ≤ 400) :
    Calls Tryd.prog 17 #[v1, v2] w fun e w' => e = .returned (.bool true) ∧ Below w.heap.size w w' := by
  obtain ⟨sa, sc, rfl⟩ := own_slice h1
  obtain ⟨ua, uc, rfl⟩ := own_slice h2
  have HO := Lib.hid h1; have HO2 := Lib.hid h2
  clear h1 h2
  go_enter Tryd.func17, Tryd.ntmps17
  go_wp2
  go_loopw [5] (fun iv wr2 => ∃ (p nq : Nat), p ≤ ts.length ∧ iv = .int .i64 p ∧ wr2 = w.drewN nq) (fun iv _ => ts.length - (intOf iv).toNat)
  case atStart => exact ⟨0, 0, Nat.zero_le _, rfl, rfl⟩
  case round =>
    obtain ⟨p, nq, hp, rfl, rfl⟩ := hrel
    by_cases hpk : p < ts.length
    · obtain ⟨g1, rfl, _, hg1⟩ := some1 HO.out (by omega)
      obtain ⟨g2, rfl, _, hg2⟩ := some2 HO2.out (by omega)
      obtain ⟨x0, x1, x2, x3⟩ := row_at HO.out p hpk
      obtain ⟨y0, y1, y2, y3⟩ := rrow_at HO2.out p hpk
      have hpk' : (p : Int) < ts.length := by omega
      have hp0 : (0 : Int) ≤ p := by omega
      generalize ts[p] = tt at *
      go_wp2_with fail
      go_quiet (fail)
      go_wp2
      go_roundw
      case rel => exact ⟨p + 1, _, by omega, by go_num, rfl⟩
      case measure => simp [intOf]; omega
    · have hpk2 : p = ts.length := by omega
      clear hpk
      go_wp2
      go_ret
      exact ⟨rfl, below_drewN (Below.refl _ _) nq⟩
end Sc
end Go.Proofs.YtaillpnjknnhdaaDoor
