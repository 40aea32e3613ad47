/- mix: what the call returns; nothing that was there turns. -/
import Derived.Test.YtjcmfgloojgknaaTLaw
namespace Go.Proofs.Ytjcmfgloojgknaa
open Go.RowKit
namespace Tx

def mxL : List (List UInt8) := [[97], [123, 123], [125, 125], [34], [92], [123], [125], [10], [32], [46, 120], [123, 123, 46, 125, 125], [123, 123, 34, 125, 125, 34, 125, 125], [92, 34]]
def mxB (n : Nat) : ByteArray := ⟨(mxL.getD n []).toArray⟩
def mxCells : Array Value := #[.string ⟨#[97]⟩, .string ⟨#[123, 123]⟩, .string ⟨#[125, 125]⟩, .string ⟨#[34]⟩, .string ⟨#[92]⟩, .string ⟨#[123]⟩, .string ⟨#[125]⟩, .string ⟨#[10]⟩, .string ⟨#[32]⟩, .string ⟨#[46, 120]⟩, .string ⟨#[123, 123, 46, 125, 125]⟩, .string ⟨#[123, 123, 34, 125, 125, 34, 125, 125]⟩, .string ⟨#[92, 34]⟩]
theorem mx_len (n : Nat) (h : n < 13) : (mxB n).size ≤ 8 := by
  have : ∀ k : Fin 13, (mxB k.val).size ≤ 8 := by decide
  exact this ⟨n, h⟩
theorem mx_cell (w : World) (t : TypeId) (n : Nat) (h : n < 13) : (w.alloc (.cells mxCells t)).cell? ⟨w.heap.size, n, none⟩ = some (.string (mxB n)) := by
  match n, h with
  | 0, _ => simp [mxCells]; rfl
  | 1, _ => simp [mxCells]; rfl
  | 2, _ => simp [mxCells]; rfl
  | 3, _ => simp [mxCells]; rfl
  | 4, _ => simp [mxCells]; rfl
  | 5, _ => simp [mxCells]; rfl
  | 6, _ => simp [mxCells]; rfl
  | 7, _ => simp [mxCells]; rfl
  | 8, _ => simp [mxCells]; rfl
  | 9, _ => simp [mxCells]; rfl
  | 10, _ => simp [mxCells]; rfl
  | 11, _ => simp [mxCells]; rfl
  | 12, _ => simp [mxCells]; rfl

def MixPost (w : World) (e : Ending) (w' : World) : Prop := Below w.heap.size w w' ∧ ∃ t : ByteArray, e = .returned (.string t) ∧ t.size ≤ 480

set_option maxRecDepth 100000 in
set_option maxHeartbeats 4000000 in
theorem mix_any (ad : Option Addr) (len cap : Nat) (f : Nat → Int) (w : World) (hI : Ints .i64 w ad len f) :
    Calls Try.prog 10 #[.slice ad len cap] w (MixPost w) := by
  have hlen := hI.1
  unfold maxLen at hlen
  have HI := Lib.hid hI; clear hI
  have HMC := Lib.hid (fun n h => mx_cell w 9 n h)
  unfold mxCells at HMC
  go_enter Try.func10, Try.ntmps10
  go_wp2
  go_loopw [4, 5] (fun tv iv wr => ∃ (j : Nat) (t : ByteArray), j ≤ len ∧ j ≤ 60 ∧ iv = .int .i64 j ∧ tv = .string t ∧ t.size ≤ 8 * j ∧ Hid (Below w.heap.size w wr) ∧ Hid (w.heap.size < wr.heap.size) ∧ Hid (∀ n, n < 13 → wr.cell? ⟨w.heap.size, n, none⟩ = some (.string (mxB n)))) (fun _ iv _ => len - (intOf iv).toNat)
  case atStart => exact ⟨0, _, Nat.zero_le _, by omega, rfl, rfl, by simp [ByteArray.size], (Below.refl _ _).alloc (Nat.le_refl _) _, by show _ < _; simp, HMC.out⟩
  case round =>
    obtain ⟨j, t, hj, hj60, rfl, rfl, hts, hm, hg, hc⟩ := hrel
    by_cases hlt : j < len ∧ j < 60
    · obtain ⟨hlt, h60⟩ := hlt
      obtain ⟨bb, off, rfl, hbl, hcc⟩ := HI.out.2 (by omega)
      have hcj := (hm.out.cell (p := ⟨bb, off + j, none⟩) hbl).trans (hcc j hlt).1
      have hwf := bounds_i64 (hcc j hlt).2
      have h5 := Int.emod_nonneg (f j) (show (13 : Int) ≠ 0 by omega)
      have h5' := Int.emod_lt_of_pos (f j) (show (0 : Int) < 13 by omega)
      obtain ⟨n, hn⟩ : ∃ n : Nat, f j % 13 = n := ⟨(f j % 13).toNat, by omega⟩
      have cW := fun w => within_any (f j) 13 w (by omega) (by omega) hwf.1 hwf.2
      rw [hn] at cW h5 h5'
      have hcn := hc.out n (by omega)
      have hml := mx_len n (by omega)
      have hsz : (t ++ mxB n).size ≤ 8 * (j + 1) := by rw [ByteArray.size_append]; omega
      have hsz2 : t.size + (mxB n).size ≤ 4000 := by omega
      generalize mxB n = pb at *
      have HW := Lib.hid cW
      generalize f j = fj at *
      have hjl : (j : Int) < len := by omega
      have hj6 : (j : Int) < 60 := by omega
      clear hcc cW hwf hlt h60 hn
      go_wp2_with (go_at_call 13; (with_reducible refine (HW.out _).mono ?_); rintro e w' ⟨rfl, rfl⟩)
      go_roundw
      case rel => exact ⟨j + 1, _, by omega, by omega, by go_num, rfl, hsz, hm, hg, hc⟩
      case measure => simp [intOf]; omega
    · have htl : t.size ≤ 480 := by omega
      by_cases hl : j < len
      · have hjl : (j : Int) < len := by omega
        have hj6 : ¬ (j : Int) < 60 := by omega
        clear hlt
        go_wp2
        go_ret
        exact ⟨hm.out, _, rfl, htl⟩
      · have hjl : ¬ (j : Int) < len := by omega
        clear hlt
        go_wp2
        go_ret
        exact ⟨hm.out, _, rfl, htl⟩
end Tx
end Go.Proofs.Ytjcmfgloojgknaa
