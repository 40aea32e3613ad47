/- Number of package sprueref1: what each call returns; the world stays. Written by gen_refd.py. -/
import Derived.Test.YtaillpnjknnhdaaDoorRefC
import Derived.Test.YtaillpnjknnhdaaDoorRefP
namespace Go.Proofs.YtaillpnjknnhdaaDoor
open Go.RowKit
namespace Sc

theorem wrap_down (N : Nat) (h : N ≤ 9223372036854775808) : IntKind.i64.wrap (IntKind.u64.wrap (-(N : Int))) = -(N : Int) := by
  simp only [IntKind.wrap, IntKind.signed, IntKind.bits]
  simp
  split <;> omega

set_option maxRecDepth 100000 in
set_option maxHeartbeats 4000000 in
theorem RNumber_plus (s : ByteArray) (l : List UInt8) (w : World) (hs : s.size ≤ 2000) (hl : s.data.toList = l) (hd : ∀ c ∈ l, isD c = true) (h0 : 0 < l.length) :
    Calls Tryd.prog 35 #[.string s] w fun e w' => e = .returned (.tuple #[.int .i64 (numN false l), .int .i64 (numE false l)]) ∧ w = w' := by
  have hsl : s.size = l.length := by rw [← bytes_len, hl]
  have hs0 : 0 < s.size := by omega
  have hb0 := bytes_at s 0 hs0
  have hc0 : s[0]'hs0 = l[0] := by rw [← hb0]; simp only [hl]
  have hd0 := hd l[0] (List.getElem_mem h0)
  obtain ⟨_, n45, _, _⟩ := digit_not _ hd0
  have t0 : ((l[0].toNat : Int) == 45) = false := by simp; omega
  obtain ⟨c0, hcc⟩ : ∃ c, l[0] = c := ⟨_, rfl⟩
  rw [hcc] at hc0 t0
  clear hb0 hd0 n45 hcc
  by_cases h19 : l.length ≤ 19
  · have h19' : ¬ (19 : Int) < s.size := by omega
    go_enter Tryd.func35, Tryd.ntmps35
    go_wp2
    go_loop [5, 6] (fun nv kv => ∃ k : Nat, k ≤ l.length ∧ kv = .int .i64 k ∧ nv = .int .u64 (vl 0 (l.take k))) (fun _ kv => l.length - (intOf kv).toNat)
    case atStart => exact ⟨0, Nat.zero_le _, rfl, rfl⟩
    case round =>
      obtain ⟨k, hk, rfl, rfl⟩ := hrel
      by_cases hlt : k < l.length
      · have hkd : k < s.size := by omega
        have hkd' : (k : Int) < s.size := by omega
        have hbk := bytes_at s k hkd
        have hck : s[k]'hkd = l[k] := by
          rw [← hbk]; simp only [hl]
        have hdk := hd l[k] (List.getElem_mem hlt)
        have hvk := vl_take_lt l k hd (by omega)
        have hsn : vl 0 (l.take (k + 1)) = vl 0 (l.take k) * 10 + (l[k].toNat - 48) := by
          rw [List.take_succ_eq_append_getElem hlt, vl_snoc]
        generalize l[k] = c at *
        unfold isD at hdk
        simp only [Bool.and_eq_true, decide_eq_true_eq] at hdk
        have hc1 : (48 : Int) ≤ c.toNat := by omega
        have hc2 : (c.toNat : Int) ≤ 57 := by omega
        generalize vl 0 (l.take k) = v at *
        have hv1 : (v : Int) < 1000000000000000000 := by omega
        have HS := Lib.hid hsn
        clear hsn hbk hdk hvk
        go_wp2
        go_round
        case rel => exact ⟨k + 1, by omega, by go_num, by rw [HS.out]; congr 1; omega⟩
        case measure => simp [intOf]; omega
      · have hkl : k = l.length := by omega
        have htk : l.take k = l := by rw [hkl, List.take_length]
        rw [htk]
        have hvl := vl_lt19 l hd h19
        clear htk hlt
        by_cases hbig : 9223372036854775807 < vl 0 l
        · have hE : numE false l = 11 := by unfold numE; rw [if_neg (by omega), if_neg (by decide), if_pos hbig]
          have hN : numN false l = 0 := by unfold numN; rw [hE, if_neg (by decide)]
          have HE := Lib.hid hE; have HNN := Lib.hid hN
          clear hE hN
          generalize vl 0 l = v at *
          have hbig' : (9223372036854775807 : Int) < v := by omega
          go_wp2
          go_ret2
          exact ⟨by rw [HE.out, HNN.out]; rfl, rfl⟩
        · have hE : numE false l = 0 := by unfold numE; rw [if_neg (by omega), if_neg (by decide), if_neg hbig]
          have hN : numN false l = ((vl 0 l : Nat) : Int) := by unfold numN; rw [hE, if_pos rfl]; rfl
          have HE := Lib.hid hE; have HNN := Lib.hid hN
          clear hE hN
          generalize vl 0 l = v at *
          have hbig' : (v : Int) ≤ 9223372036854775807 := by omega
          clear hbig
          go_wp2
          go_ret2
          exact ⟨by rw [HE.out, HNN.out]; rfl, rfl⟩
  · have h19' : (19 : Int) < s.size := by omega
    have hE : numE false l = 4 := by unfold numE; rw [if_pos (by omega)]
    have hN : numN false l = 0 := by unfold numN; rw [hE, if_neg (by decide)]
    rw [hE, hN]
    clear hE hN
    go_enter Tryd.func35, Tryd.ntmps35
    go_wp2
    go_ret2
    exact ⟨rfl, rfl⟩

set_option maxRecDepth 100000 in
set_option maxHeartbeats 4000000 in
theorem RNumber_minus (s : ByteArray) (l : List UInt8) (w : World) (hs : s.size ≤ 2000) (hl : s.data.toList = 45 :: l) (hd : ∀ c ∈ l, isD c = true) (h0 : 0 < l.length) :
    Calls Tryd.prog 35 #[.string s] w fun e w' => e = .returned (.tuple #[.int .i64 (numN true l), .int .i64 (numE true l)]) ∧ w = w' := by
  have hsl : s.size = l.length + 1 := by rw [← bytes_len, hl]; rfl
  have hs0 : 0 < s.size := by omega
  have hb0 := bytes_at s 0 hs0
  have hc0 : s[0]'hs0 = 45 := by rw [← hb0]; simp only [hl]; rfl
  have t0 : (((45 : UInt8).toNat : Int) == 45) = true := by decide
  have hdl : (s.extract 1 s.size).data.toList = l := by rw [drop_ext, hl]; rfl
  have hds : (s.extract 1 s.size).size = l.length := by rw [← bytes_len, hdl]
  obtain ⟨ds, hdsE⟩ : ∃ d, s.extract 1 s.size = d := ⟨_, rfl⟩
  rw [hdsE] at hdl hds
  clear hb0 hsl
  by_cases h19 : l.length ≤ 19
  · have h19' : ¬ (19 : Int) < ds.size := by omega
    go_enter Tryd.func35, Tryd.ntmps35
    go_wp2
    go_loop [5, 6] (fun nv kv => ∃ k : Nat, k ≤ l.length ∧ kv = .int .i64 k ∧ nv = .int .u64 (vl 0 (l.take k))) (fun _ kv => l.length - (intOf kv).toNat)
    case atStart => exact ⟨0, Nat.zero_le _, rfl, rfl⟩
    case round =>
      obtain ⟨k, hk, rfl, rfl⟩ := hrel
      by_cases hlt : k < l.length
      · have hkd : k < ds.size := by omega
        have hkd' : (k : Int) < ds.size := by omega
        have hbk := bytes_at ds k hkd
        have hck : ds[k]'hkd = l[k] := by
          rw [← hbk]; simp only [hdl]
        have hdk := hd l[k] (List.getElem_mem hlt)
        have hvk := vl_take_lt l k hd (by omega)
        have hsn : vl 0 (l.take (k + 1)) = vl 0 (l.take k) * 10 + (l[k].toNat - 48) := by
          rw [List.take_succ_eq_append_getElem hlt, vl_snoc]
        generalize l[k] = c at *
        unfold isD at hdk
        simp only [Bool.and_eq_true, decide_eq_true_eq] at hdk
        have hc1 : (48 : Int) ≤ c.toNat := by omega
        have hc2 : (c.toNat : Int) ≤ 57 := by omega
        generalize vl 0 (l.take k) = v at *
        have hv1 : (v : Int) < 1000000000000000000 := by omega
        have HS := Lib.hid hsn
        clear hsn hbk hdk hvk
        go_wp2
        go_round
        case rel => exact ⟨k + 1, by omega, by go_num, by rw [HS.out]; congr 1; omega⟩
        case measure => simp [intOf]; omega
      · have hkl : k = l.length := by omega
        have htk : l.take k = l := by rw [hkl, List.take_length]
        rw [htk]
        have hvl := vl_lt19 l hd h19
        clear htk hlt
        by_cases hbig : 9223372036854775808 < vl 0 l
        · have hE : numE true l = 11 := by unfold numE; rw [if_neg (by omega), if_pos rfl, if_pos hbig]
          have hN : numN true l = 0 := by unfold numN; rw [hE, if_neg (by decide)]
          have HE := Lib.hid hE; have HNN := Lib.hid hN
          clear hE hN
          generalize vl 0 l = v at *
          have hbig' : (9223372036854775808 : Int) < v := by omega
          go_wp2
          go_ret2
          exact ⟨by rw [HE.out, HNN.out]; rfl, rfl⟩
        · have hE : numE true l = 0 := by unfold numE; rw [if_neg (by omega), if_pos rfl, if_neg hbig]
          have hN : numN true l = -((vl 0 l : Nat) : Int) := by unfold numN; rw [hE, if_pos rfl]; rfl
          have hwd := wrap_down (vl 0 l) (by omega)
          have HE := Lib.hid hE; have HNN := Lib.hid hN
          clear hE hN
          generalize vl 0 l = v at *
          have hbig' : (v : Int) ≤ 9223372036854775808 := by omega
          clear hbig
          go_wp2
          go_ret2
          exact ⟨by rw [HE.out, HNN.out]; rfl, rfl⟩
  · have h19' : (19 : Int) < ds.size := by omega
    have hE : numE true l = 4 := by unfold numE; rw [if_pos (by omega)]
    have hN : numN true l = 0 := by unfold numN; rw [hE, if_neg (by decide)]
    rw [hE, hN]
    clear hE hN
    go_enter Tryd.func35, Tryd.ntmps35
    go_wp2
    go_ret2
    exact ⟨rfl, rfl⟩
end Sc
end Go.Proofs.YtaillpnjknnhdaaDoor
