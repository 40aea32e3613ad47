/- ScanFronts: the walk. -/
import Derived.Test.YtaillpnjknnhdaaDoorLits
import Derived.Test.YtaillpnjknnhdaaDoorFrontsP
namespace Go.Proofs.YtaillpnjknnhdaaDoor
open Go.RowKit
namespace Sc

def pcB (n : Nat) : ByteArray := ⟨(pcL n).toArray⟩
theorem pc_cell (w : World) (t : TypeId) (n : Nat) (h : n < 9) : (w.alloc (.cells #[.string ⟨#[97]⟩, .string ⟨#[98, 57]⟩, .string ⟨#[55]⟩, .string ⟨#[45, 55]⟩, .string ⟨#[34, 120, 32, 121, 34]⟩, .string ⟨#[45, 62]⟩, .string ⟨#[46]⟩, .string ⟨#[36]⟩, .string ⟨#[123]⟩] t)).cell? ⟨w.heap.size, n, none⟩ = some (.string (pcB n)) := by
  match n, h with
  | 0, _ => simp; rfl
  | 1, _ => simp; rfl
  | 2, _ => simp; rfl
  | 3, _ => simp; rfl
  | 4, _ => simp; rfl
  | 5, _ => simp; rfl
  | 6, _ => simp; rfl
  | 7, _ => simp; rfl
  | 8, _ => simp; rfl

theorem row_some' {w : World} {base n c : Nat} {a : Option Addr} {ts : List T} (h : w.ownsRow base 38 4 (.slice a n c) ts.length (ts.flatMap tokCells)) (h0 : 0 < ts.length) : ∃ g, a = some ⟨g, 0, none⟩ ∧ base ≤ g ∧ g < w.heap.size := by
  obtain ⟨g, cap, e, hb, hg⟩ := row_some h h0
  cases e
  exact ⟨g, rfl, hb, hg⟩

set_option maxRecDepth 100000 in
set_option maxHeartbeats 4000000 in
theorem fronts_any (ad : Option Addr) (len cap : Nat) (zs : List Int) (b : Int) (w : World) (hT : Tabs w) (hR : IsRow .i64 w ad len cap zs) (hb1 : -9223372036854775808 ≤ b) (hb2 : b ≤ 9223372036854775807) :
    Calls Tryd.prog 10 #[.slice ad len cap, .int .i64 b] w fun e w' => e = .returned (.bool true) ∧ Below w.heap.size w w' := by
  have hI := ints_of_row hR
  generalize (fun i => zs.getD i 0) = f at hI
  have hlen := hI.1
  unfold maxLen at hlen
  have cK := known_any w hT
  obtain ⟨m, hm⟩ : ∃ m : Nat, min (len : Int) 30 = m := ⟨min len 30, by omega⟩
  have hml : m ≤ len := by omega
  have hm30 : m ≤ 30 := by omega
  have cA := fun w => within_any b (m + 1) w (by omega) (by omega) hb1 hb2
  have k0 := Int.emod_nonneg b (show ((m : Int) + 1) ≠ 0 by omega)
  have k1 := Int.emod_lt_of_pos b (show (0 : Int) < (m : Int) + 1 by omega)
  obtain ⟨k, hk⟩ : ∃ k : Nat, b % ((m : Int) + 1) = k := ⟨(b % ((m : Int) + 1)).toNat, by omega⟩
  rw [hk] at cA k0 k1
  have hkm : k ≤ m := by omega
  have HI := Lib.hid hI; have HT := Lib.hid hT; have HK := Lib.hid cK; have HA := Lib.hid cA
  clear hI hT cK hR cA hk k0 k1 hb1 hb2
  go_enter Tryd.func10, Tryd.ntmps10
  go_wp2_with (first | (go_at_call 12; (with_reducible refine HK.out.mono ?_); rintro e w1 ⟨rfl, hb⟩) | (go_at_call 14; (with_reducible refine (HA.out _).mono ?_); rintro e w' ⟨rfl, rfl⟩))
  have HB := Lib.hid hb; clear hb HK hm
  go_loopw [5, 6, 9] (fun sv fv kv wr => ∃ (j : Nat) (ks : List Nat) (t u : ByteArray), j ≤ m ∧ ks.length = j ∧ kv = .int .i64 j ∧ sv = .string t ∧ fv = .string u ∧ t.size ≤ 6 * j ∧ Hid (t.data.toList = allL ks) ∧ Hid (u.data.toList = allL (ks.take k)) ∧ Hid (Below w.heap.size w wr)) (fun _ _ kv _ => m - (intOf kv).toNat)
  case atStart => exact ⟨0, [], _, _, Nat.zero_le _, rfl, rfl, rfl, rfl, by simp [ByteArray.size], rfl, by simp [Hid, allL], HB⟩
  case round =>
    obtain ⟨j, ks, t, u, hj, hks, rfl, rfl, rfl, hts, ht, hu, hm⟩ := hrel
    by_cases hlt : j < m
    · obtain ⟨bb, off, rfl, hbl, hc⟩ := HI.out.2 (by omega)
      have hcj := (hm.out.cell (p := ⟨bb, off + j, none⟩) hbl).trans (hc j (by omega)).1
      have hwf := bounds_i64 (hc j (by omega)).2
      have hbw := hm.out.size
      have hbl2 : bb < wr.heap.size := by omega
      have h9 := Int.emod_nonneg (f j) (show (9 : Int) ≠ 0 by omega)
      have h9' := Int.emod_lt_of_pos (f j) (show (0 : Int) < 9 by omega)
      obtain ⟨n, hn⟩ : ∃ n : Nat, f j % 9 = n := ⟨(f j % 9).toNat, by omega⟩
      have cW := fun w => within_any (f j) 9 w (by omega) (by omega) hwf.1 hwf.2
      rw [hn] at cW h9 h9'
      have hch := pc_cell wr 9 n (by omega)
      have hcs : (pcB n).size ≤ 5 := pc_len n
      have hcs2 : (t ++ pcB n).size ≤ 185 := by rw [ByteArray.size_append]; omega
      have hjl : (j : Int) < len := by omega
      have HW := Lib.hid cW
      generalize f j = fj at *
      clear hc cW hwf hn
      have key : Hid (((t ++ pcB n) ++ ⟨#[32]⟩).data.toList = allL (ks ++ [n])) ∧ ((t ++ pcB n) ++ ⟨#[32]⟩).size ≤ 6 * (j + 1) := by
        refine ⟨?_, ?_⟩
        · unfold Hid; rw [cat_bytes, cat_bytes, ht.out, allL_snoc]; rfl
        · rw [ByteArray.size_append, ByteArray.size_append]; show _ + 1 ≤ _; omega
      have KY := Lib.hid key
      clear key
      by_cases hjk : j < k
      · have hf : ks ++ [n] = (ks ++ [n]).take k := by rw [List.take_of_length_le]; simp; omega
        have HF := Lib.hid hf; clear hf
        go_wp2_with (go_at_call 14; (with_reducible refine (HW.out _).mono ?_); rintro e w' ⟨rfl, rfl⟩)
        go_roundw
        case rel => exact ⟨j + 1, ks ++ [n], _, _, by omega, by simp [hks], by go_num, rfl, rfl, KY.out.2, KY.out.1, by unfold Hid; rw [← HF.out]; exact KY.out.1, Lib.hid (hm.out.alloc hbw _)⟩
        case measure => simp [intOf]; omega
      · have hf : (ks ++ [n]).take k = ks.take k := by rw [List.take_append_of_le_length]; omega
        have HF := Lib.hid hf; clear hf
        go_wp2_with (go_at_call 14; (with_reducible refine (HW.out _).mono ?_); rintro e w' ⟨rfl, rfl⟩)
        go_roundw
        case rel => exact ⟨j + 1, ks ++ [n], _, _, by omega, by simp [hks], by go_num, rfl, rfl, KY.out.2, KY.out.1, by unfold Hid; rw [HF.out]; exact hu, Lib.hid (hm.out.alloc hbw _)⟩
        case measure => simp [intOf]; omega
    · have hjm : j = m := by omega
      subst hjm
      clear hlt
      have cT := Tokens_any t wr (by unfold maxLen; omega) (HT.out.below hm.out).1 (HT.out.below hm.out).2
      unfold ToksPost at cT
      rw [ht.out, all_toks ks (by omega)] at cT
      have hul := allL_len (ks.take k)
      have hkl : (ks.take k).length = k := by rw [List.length_take]; omega
      have cU := fun w2 (hb2 : Below w.heap.size w w2) => Tokens_any u w2 (by rw [← bytes_len, hu.out]; unfold maxLen; omega) (HT.out.below hb2).1 (HT.out.below hb2).2
      unfold ToksPost at cU
      simp only [hu.out, all_toks (ks.take k) (by omega), allT_take] at cU
      have hlT : (allT ks 0).length = j := by rw [allT_len, hks]
      generalize allT ks 0 = ts at *
      have hlU : (ts.take k).length = k := by rw [List.length_take]; omega
      have CT := Lib.hid cT; have CU := Lib.hid cU
      clear cT cU hul hkl ht hu HI HA HT
      go_wp2_with fail
      (with_reducible refine CT.out.mono ?_)
      rintro e w2 ⟨hb2, v, rfl, ho⟩
      have hb3 := hm.out.trans (hb2.mono hm.out.size)
      go_wp2_with fail
      (with_reducible refine (CU.out w2 hb3).mono ?_)
      rintro e w3 ⟨hb4, v', rfl, ho2⟩
      have hb5 := hb3.trans (hb4.mono hb3.size)
      have HO := Lib.hid ho; have HO2 := Lib.hid ho2; have HB4 := Lib.hid hb4
      obtain ⟨sa, sc, rfl⟩ := own_slice ho
      obtain ⟨ua, uc, rfl⟩ := own_slice ho2
      clear ho ho2 hb4 hb2 CT CU hb3
      have HLT := Lib.hid hlT; have HLU := Lib.hid hlU; have HB5 := Lib.hid hb5
      clear hb5
      go_wp2
      go_loopw [15] (fun iv wr2 => ∃ (p nq : Nat), p ≤ k ∧ iv = .int .i64 p ∧ wr2 = w3.drewN nq) (fun iv _ => k - (intOf iv).toNat)
      case atStart => exact ⟨0, 0, Nat.zero_le _, rfl, rfl⟩
      case round =>
        obtain ⟨p, nq, hp, rfl, rfl⟩ := hrel
        by_cases hpk : p < k
        · obtain ⟨g1, rfl, _, hg1⟩ := row_some' HO.out (by have := HLT.out; omega)
          obtain ⟨g2, rfl, _, hg2⟩ := row_some' HO2.out (by have := HLU.out; omega)
          have hpl : p < ts.length := by have := HLT.out; omega
          obtain ⟨x0, x1, x2, x3⟩ := row_at HO.out p hpl
          obtain ⟨y0, y1, y2, y3⟩ := row_at HO2.out p (by have := HLU.out; omega)
          rw [List.getElem_take] at y0 y1 y2 y3
          have x0 := (HB4.out.cell (p := ⟨g1, p * 4, none⟩) hg1).trans x0
          have x1 := (HB4.out.cell (p := ⟨g1, p * 4 + 1, none⟩) hg1).trans x1
          have x2 := (HB4.out.cell (p := ⟨g1, p * 4 + 2, none⟩) hg1).trans x2
          have x3 := (HB4.out.cell (p := ⟨g1, p * 4 + 3, none⟩) hg1).trans x3
          have hpj : (p : Int) < j := by omega
          have hpk' : (p : Int) < k := by omega
          have hp0 : (0 : Int) ≤ p := by omega
          generalize ts[p] = tt at *
          go_wp2_with fail
          go_quiet (fail)
          go_wp2
          go_roundw
          case rel => exact ⟨p + 1, _, by omega, by go_num, rfl⟩
          case measure => simp [intOf]; omega
        · have hpk2 : p = k := by omega
          clear hpk
          go_wp2
          go_ret
          exact ⟨rfl, below_drewN HB5.out nq⟩
end Sc
end Go.Proofs.YtaillpnjknnhdaaDoor
