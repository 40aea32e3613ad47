/- sprueref3's Same, of two types that are the same. -/
import Derived.Test.YtnnnjonodnkccaaGreatDoorSWrC
import Derived.Test.YtnnnjonodnkccaaGreatDoorSNamed
import Derived.Deep.RegionHeld3
namespace Go.Proofs.YtnnnjonodnkccaaGreatDoor
open Go.RowKit
namespace Sh
open Sc

mutual
/-- No more names than kids, all the way down. -/
def evenT : Ty → Bool
  | .any => false
  | .mk _ _ ns ks => decide (ns.length ≤ ks.length) && evenK ks
def evenK : List Ty → Bool
  | [] => true
  | t :: ks => evenT t && evenK ks
end
theorem evenK_mem : ∀ (ks : List Ty), evenK ks = true → ∀ (k : Nat) (h : k < ks.length), evenT ks[k] = true
  | t :: ks, hg, 0, _ => by simp only [evenK, Bool.and_eq_true] at hg; exact hg.1
  | t :: ks, hg, k + 1, h => by simp only [evenK, Bool.and_eq_true] at hg; exact evenK_mem ks hg.2 k (by simpa using h)

def SameT (t : Ty) : Prop := ∀ (w : World) (S S' : Nat → Prop) (c d : C4), TyV w S t c → TyV w S' t d → (∀ g, S g → g < w.heap.size) → (∀ g, S' g → g < w.heap.size) →
  Calls Tryz.prog 11 #[c.val, d.val] w fun e w' => e = .returned (.bool true) ∧ Below w.heap.size w w'

def LRel (w W0 : World) (n : Nat) (i : Value) (wr : World) (k : Nat) : Prop := i = .int .i64 k ∧ k ≤ n ∧ Below (w.heap.size + 2) W0 wr

set_option maxRecDepth 100000 in
set_option maxHeartbeats 4000000 in
theorem same_step (k0 : Nat) (n : List UInt8) (ns : List (List UInt8)) (ks : List Ty) (hks : ks.length ≤ 65536) (hns : ns.length ≤ ks.length) (hkid : ∀ i (hi : i < ks.length), SameT ks[i]) : SameT (.mk k0 n ns ks) := by
  intro w S S' c d hc hd hS hS'
  cases hc with
  | mk _ _ _ _ an cn ak ck us hl hn hk hu =>
  cases hd with
  | mk _ _ _ _ an' cn' ak' ck' us' hl' hn' hk' hu' =>
  obtain ⟨r0, r1⟩ := two_new w (.cells #[.int .i64 k0, .string ⟨n.toArray⟩, .slice an ns.length cn, .slice ak ks.length ck] 29) (.cells #[.int .i64 k0, .string ⟨n.toArray⟩, .slice an' ns.length cn', .slice ak' ks.length ck'] 29)
  have hb0 : Below w.heap.size w ((w.alloc (.cells #[.int .i64 k0, .string ⟨n.toArray⟩, .slice an ns.length cn, .slice ak ks.length ck] 29)).alloc (.cells #[.int .i64 k0, .string ⟨n.toArray⟩, .slice an' ns.length cn', .slice ak' ks.length ck'] 29)) := ((Below.refl _ _).alloc (Nat.le_refl _) _).alloc (by simp) _
  have s0 : ((w.alloc (.cells #[.int .i64 k0, .string ⟨n.toArray⟩, .slice an ns.length cn, .slice ak ks.length ck] 29)).alloc (.cells #[.int .i64 k0, .string ⟨n.toArray⟩, .slice an' ns.length cn', .slice ak' ks.length ck'] 29)).heap.size = w.heap.size + 2 := by simp
  have R0 := Lib.hid r0; have R1 := Lib.hid r1; have HB0 := Lib.hid hb0; have HN := Lib.hid hn; have HN' := Lib.hid hn'; have HK := Lib.hid hk; have HK' := Lib.hid hk'
  have HU := Lib.hid hu; have HU' := Lib.hid hu'; have HSS := Lib.hid hS; have HSS' := Lib.hid hS'; have HKID := Lib.hid hkid; have S0 := Lib.hid s0
  clear r0 r1 hb0 hn hn' hk hk' hu hu' hS hS' hkid s0
  unfold C4.val
  go_enter Tryz.func11, Tryz.ntmps11
  go_wp2
  go_loopw [5] (fun i wr => ∃ k, LRel w ((w.alloc (.cells #[.int .i64 k0, .string ⟨n.toArray⟩, .slice an ns.length cn, .slice ak ks.length ck] 29)).alloc (.cells #[.int .i64 k0, .string ⟨n.toArray⟩, .slice an' ns.length cn', .slice ak' ks.length ck'] 29)) ns.length i wr k) (fun i _ => ns.length - (intOf i).toNat)
  case atStart => exact ⟨0, rfl, Nat.zero_le _, Below.refl _ _⟩
  case round =>
    obtain ⟨k, rfl, hkl, hB⟩ := hrel
    have hBw := HB0.out.trans (hB.mono (by omega))
    have hws : w.heap.size + 2 ≤ wr.heap.size := by have := hB.size; rw [S0.out] at this; exact this
    have b0 := (hB.block w.heap.size (by omega)).trans R0.out
    have b1 := (hB.block (w.heap.size + 1) (by omega)).trans R1.out
    obtain ⟨⟨p0, p1, p2, p3⟩, _⟩ := four_blk b0
    obtain ⟨⟨q0, q1, q2, q3⟩, _⟩ := four_blk b1
    have HB := Lib.hid hB; have HBW := Lib.hid hBw
    clear hB hBw b0 b1
    by_cases hlt : k < ns.length
    · obtain ⟨g, rfl, hg⟩ := name_cells HN.out HSS.out k hlt
      obtain ⟨g', rfl, hg'⟩ := name_cells HN'.out HSS'.out k hlt
      have m1 : wr.drew.cell? ⟨g, k, none⟩ = some (.string ⟨ns[k].toArray⟩) := hg _ HBW.out.drew
      have m2 : wr.drew.cell? ⟨g', k, none⟩ = some (.string ⟨ns[k].toArray⟩) := hg' _ HBW.out.drew
      have p2d : wr.drew.cell? ⟨w.heap.size, 2, none⟩ = some (.slice (some ⟨g, 0, none⟩) ns.length cn) := p2
      have q2d : wr.drew.cell? ⟨w.heap.size + 1, 2, none⟩ = some (.slice (some ⟨g', 0, none⟩) ns.length cn') := q2
      have hkz : (k : Int) < (ns.length : Int) := by omega
      have hk0 : (0 : Int) ≤ (k : Int) := by omega
      clear hg hg'
      generalize ns[k] = x at *
      go_wp2_with fail
      go_region_held3 (fun w' => w'.cell? ⟨w.heap.size, 2, none⟩ = some (.slice (some ⟨g, 0, none⟩) ns.length cn) ∧ w'.cell? ⟨w.heap.size + 1, 2, none⟩ = some (.slice (some ⟨g', 0, none⟩) ns.length cn') ∧ w'.cell? ⟨g, k, none⟩ = some (.string ⟨x.toArray⟩) ∧ w'.cell? ⟨g', k, none⟩ = some (.string ⟨x.toArray⟩)) (go_keep) (fail)
      go_wp2
      go_roundw
      case rel => exact ⟨k + 1, by go_num, by omega, HB.out.drew⟩
      case measure => simp [intOf]; omega
    · obtain rfl : k = ns.length := by omega
      have hB := HB.out
      clear p0 p1 p2 p3 q0 q1 q2 q3 HB HBW hlt hkl
      obtain ⟨wx, hwx⟩ : ∃ wx, wx = wr := ⟨wr, rfl⟩
      subst hwx
      obtain ⟨⟨p0, p1, p2, p3⟩, _⟩ := four_blk ((hB.block w.heap.size (by omega)).trans R0.out)
      obtain ⟨⟨q0, q1, q2, q3⟩, _⟩ := four_blk ((hB.block (w.heap.size + 1) (by omega)).trans R1.out)
      have HB1 := Lib.hid hB
      clear hB
      go_wp2
      clear p0 p1 p2 p3 q0 q1 q2 q3
      go_loopw [6] (fun i wr => ∃ k, LRel w ((w.alloc (.cells #[.int .i64 k0, .string ⟨n.toArray⟩, .slice an ns.length cn, .slice ak ks.length ck] 29)).alloc (.cells #[.int .i64 k0, .string ⟨n.toArray⟩, .slice an' ns.length cn', .slice ak' ks.length ck'] 29)) ks.length i wr k) (fun i _ => ks.length - (intOf i).toNat)
      case atStart => exact ⟨0, rfl, Nat.zero_le _, HB1.out⟩
      case round =>
        obtain ⟨k, rfl, hkl, hB⟩ := hrel
        have hBw := HB0.out.trans (hB.mono (by omega))
        have hws2 := hB.size
        rw [S0.out] at hws2
        have b0 := (hB.block w.heap.size (by omega)).trans R0.out
        have b1 := (hB.block (w.heap.size + 1) (by omega)).trans R1.out
        obtain ⟨⟨p0, p1, p2, p3⟩, _⟩ := four_blk b0
        obtain ⟨⟨q0, q1, q2, q3⟩, _⟩ := four_blk b1
        have HB := Lib.hid hB; have HBW := Lib.hid hBw
        clear hB hBw b0 b1
        by_cases hlt : k < ks.length
        · have hlu : k < us.length := by omega
          have hlu' : k < us'.length := by omega
          obtain ⟨g, rfl, hg⟩ := kid_cells HK.out HSS.out k hlu
          obtain ⟨g', rfl, hg'⟩ := kid_cells HK'.out HSS'.out k hlu'
          obtain ⟨m0, m1, m2, m3⟩ := hg _ HBW.out.drew
          obtain ⟨l0, l1, l2, l3⟩ := hg' _ HBW.out.drew
          have p3d : wr.drew.cell? ⟨w.heap.size, 3, none⟩ = some (.slice (some ⟨g, 0, none⟩) ks.length ck) := p3
          have q3d : wr.drew.cell? ⟨w.heap.size + 1, 3, none⟩ = some (.slice (some ⟨g', 0, none⟩) ks.length ck') := q3
          have hbs : ∀ g, g < w.heap.size → wr.drew.heap[g]? = w.heap[g]? := fun g hg => HBW.out.drew.block g hg
          have C := HKID.out k hlt wr.drew S S' us[k] us'[k] ((HU.out k hlt hlu).keep (fun _ h => h) (fun g hg => hbs g (HSS.out g hg))) ((HU'.out k hlt hlu').keep (fun _ h => h) (fun g hg => hbs g (HSS'.out g hg))) (fun g hg => Nat.lt_of_lt_of_le (HSS.out g hg) HBW.out.size) (fun g hg => Nat.lt_of_lt_of_le (HSS'.out g hg) HBW.out.size)
          unfold C4.val at C
          have HC := Lib.hid C
          have hkz : (k : Int) < (ks.length : Int) := by omega
          have hk0 : (0 : Int) ≤ (k : Int) := by omega
          have HG := Lib.hid hg; have HG' := Lib.hid hg'
          clear hg hg' C hbs
          generalize us[k] = x at *
          generalize us'[k] = y at *
          obtain ⟨x1, x2, x3, x4, x5, x6, x7, x8⟩ := x
          obtain ⟨y1, y2, y3, y4, y5, y6, y7, y8⟩ := y
          go_wp2_with fail
          go_region_held3 (fun w' => w'.cell? ⟨w.heap.size, 3, none⟩ = some (.slice (some ⟨g, 0, none⟩) ks.length ck) ∧ w'.cell? ⟨w.heap.size + 1, 3, none⟩ = some (.slice (some ⟨g', 0, none⟩) ks.length ck') ∧ w'.cell? ⟨g, k * 4, none⟩ = some (.int .i64 x1) ∧ w'.cell? ⟨g, k * 4 + 1, none⟩ = some (.string x2) ∧ w'.cell? ⟨g, k * 4 + 2, none⟩ = some (.slice x3 x4 x5) ∧ w'.cell? ⟨g, k * 4 + 3, none⟩ = some (.slice x6 x7 x8) ∧ w'.cell? ⟨g', k * 4, none⟩ = some (.int .i64 y1) ∧ w'.cell? ⟨g', k * 4 + 1, none⟩ = some (.string y2) ∧ w'.cell? ⟨g', k * 4 + 2, none⟩ = some (.slice y3 y4 y5) ∧ w'.cell? ⟨g', k * 4 + 3, none⟩ = some (.slice y6 y7 y8)) (go_keep) (first
            | (go_at_call 11; (refine HC.out.mono ?_); rintro e w5 ⟨rfl, b5⟩; have hb5 := HBW.out.drew.trans (b5.mono HBW.out.size); have z3 := (b5.cell (p := ⟨w.heap.size, 3, none⟩) (show w.heap.size < wr.heap.size by omega)).trans p3d; have y3' := (b5.cell (p := ⟨w.heap.size + 1, 3, none⟩) (show w.heap.size + 1 < wr.heap.size by omega)).trans q3d; obtain ⟨m0', m1', m2', m3'⟩ := HG.out _ hb5; obtain ⟨l0', l1', l2', l3'⟩ := HG'.out _ hb5))
          go_wp2
          go_roundw
          case rel => exact ⟨k + 1, by go_num, by omega, HB.out.drew.trans (b5.mono (by show _ ≤ wr.heap.size; omega))⟩
          case measure => simp [intOf]; omega
        · obtain rfl : k = ks.length := by omega
          have HBW2 := HBW.out
          go_wp2
          go_ret
          exact ⟨rfl, HBW2⟩

theorem rsame_any (n : Nat) : ∀ t, sizeT t ≤ n → n ≤ 65536 → goodT t = true → evenT t = true → SameT t := by
  induction n with
  | zero => intro t h; have := sizeT_pos t; omega
  | succ n ih =>
    intro t hs hn hg he
    cases t with
    | any => cases hg
    | mk k nm ns ks =>
      simp only [goodT, Bool.and_eq_true, decide_eq_true_eq] at hg
      simp only [evenT, Bool.and_eq_true, decide_eq_true_eq] at he
      have hst : sizeT (.mk k nm ns ks) = 1 + sizeK ks := by rw [sizeT]
      rw [hst] at hs
      have := len_sizeK ks
      exact same_step k nm ns ks (by omega) he.1 (fun i hi => ih ks[i] (by have := sizeT_mem ks i hi; omega) (by omega) (goodK_mem ks hg.2 i hi) (evenK_mem ks he.2 i hi))
end Sh
end Go.Proofs.YtnnnjonodnkccaaGreatDoor
