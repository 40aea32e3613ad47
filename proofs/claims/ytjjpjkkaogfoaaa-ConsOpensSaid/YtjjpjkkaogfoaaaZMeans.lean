/- meanings: the map of what named types stand for. -/
import Derived.Test.YtjjpjkkaogfoaaaZTypeN
import Derived.Carry
namespace Go.Proofs.Ytjjpjkkaogfoaaa
open Go.RowKit
namespace Sp
open Sc

set_option maxRecDepth 100000 in
set_option maxHeartbeats 8000000 in
theorem meanings_any (us : List (List UInt8 × C4)) (a : Option Addr) (c : Nat) (w : World) (S : Nat → Prop)
    (hn : RowV w S a 5 (us.map encZ)) (hS : ∀ g, S g → g < w.heap.size) (hl : ∀ i (h : i < us.length), us[i].1.length ≤ maxLen) (hnl : us.length < maxLen) :
    Calls Try.prog 37 #[.slice a us.length c] w fun e w' => ∃ mb, e = .returned (.map (some mb)) ∧ w.heap.size ≤ mb ∧ MapV w' mb us ∧ Below w.heap.size w w' := by
  have hnl2 := hnl
  unfold maxLen at hnl2
  have HN := Lib.hid hn; have HS := Lib.hid hS; have HLL := Lib.hid hl; have HNL := Lib.hid hnl
  have hM0 := MapV.made w
  have hb0 : Below w.heap.size w (w.alloc (.map #[] 0)) := (Below.refl _ _).alloc (Nat.le_refl _) _
  have hs0 : (w.alloc (.map #[] 0)).heap.size = w.heap.size + 1 := by simp
  have HM0 := Lib.hid hM0; have HB0 := Lib.hid hb0
  clear hn hS hl hM0 hb0 hnl
  have hmm := @run_makeMap Try.prog
  go_enter Try.func37, Try.ntmps37
  go_wp2
  go_loopw [9] (fun iv wr => ∃ j, j ≤ us.length ∧ iv = .int .i64 j ∧ Hid (MapV wr w.heap.size (us.take j)) ∧ Hid (Below w.heap.size w wr)) (fun iv _ => us.length - (intOf iv).toNat)
  case atStart => exact ⟨0, Nat.zero_le _, rfl, HM0, HB0⟩
  case round =>
    obtain ⟨j, hj, rfl, hM, hB⟩ := hrel
    have hws := hB.out.size
    have hml := hM.out.lt
    by_cases hlt : j < us.length
    · obtain ⟨g, o, rfl, hg, hc⟩ := named_at HN.out HS.out j hlt
      obtain ⟨c0, c1, c2, c3, c4⟩ := hc wr hB.out
      have hnx := HLL.out j hlt
      have htk : us.take (j + 1) = us.take j ++ [us[j]] := by rw [List.take_add_one, List.getElem?_eq_getElem hlt]; rfl
      have HTK := Lib.hid htk
      have hjz : (j : Int) < (us.length : Int) := by omega
      have htl : (us.take j).length < maxLen := by rw [List.length_take]; have := HNL.out; omega
      clear hc htk
      generalize us[j] = x at *
      obtain ⟨x, ⟨x1, x2, x3, x4, x5, x6, x7, x8⟩⟩ := x
      dsimp only at *
      obtain ⟨W1, hW1⟩ : ∃ W1, W1 = wr.alloc (.cells #[.string ⟨x.toArray⟩, .int .i64 x1, .string x2, .slice x3 x4 x5, .slice x6 x7 x8] 44) := ⟨_, rfl⟩
      have hBB : Below wr.heap.size wr W1 := by rw [hW1]; exact (Below.refl _ _).alloc (Nat.le_refl _) _
      have hM1 := hM.out.below hBB
      have hs1 := hBB.size
      have f0 : W1.cell? ⟨wr.heap.size, 0, none⟩ = some (.string ⟨x.toArray⟩) := by rw [hW1]; simp
      have f1 : W1.cell? ⟨wr.heap.size, 1, none⟩ = some (.int .i64 x1) := by rw [hW1]; simp
      have f2 : W1.cell? ⟨wr.heap.size, 2, none⟩ = some (.string x2) := by rw [hW1]; simp
      have f3 : W1.cell? ⟨wr.heap.size, 3, none⟩ = some (.slice x3 x4 x5) := by rw [hW1]; simp
      have f4 : W1.cell? ⟨wr.heap.size, 4, none⟩ = some (.slice x6 x7 x8) := by rw [hW1]; simp
      obtain ⟨w', hrun, hM', hgr⟩ := hM1.put x ⟨x1, x2, x3, x4, x5, x6, x7, x8⟩ hnx htl
      unfold C4.val at hrun
      dsimp only at hrun
      have HM' := Lib.hid hM'; have HGR := Lib.hid hgr; have HBB := Lib.hid hBB
      clear hM1 hM' hgr hBB
      subst hW1
      go_wp2
      go_roundw
      case rel => exact ⟨j + 1, by omega, by go_num, by unfold Hid; rw [HTK.out]; exact HM'.out, (hB.out.trans (HBB.out.mono hws)).grown HGR.out (by omega) (fun k hk => by cases hk; exact Nat.le_refl _)⟩
      case measure => simp [intOf]; omega
    · have hjn : j = us.length := by omega
      subst hjn
      have hz := hM.out
      rw [List.take_length] at hz
      have HZ := Lib.hid hz
      clear hz hM
      go_wp2
      go_ret
      exact ⟨_, rfl, Nat.le_refl _, HZ.out, hB.out⟩
end Sp
end Go.Proofs.Ytjjpjkkaogfoaaa
