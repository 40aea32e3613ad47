/- Names: one behind the other; the words of types; the builtin functions. -/
import Derived.Test.YtdophmlnmbcjlaaT3
import Derived.WalkLawsBesides
import Derived.Carry
namespace Go.Proofs.Ytdophmlnmbcjlaa
open Go.RowKit
namespace Sp
open Sc
theorem toList_mk' (l : List UInt8) : (⟨l.toArray⟩ : ByteArray).toList = l := by rw [ByteArray.toList_mk]
set_option maxHeartbeats 800000 in
theorem nameError_any (a n : List UInt8) (tk : Bool) (w : World) (hn : n.length ≤ maxLen) :
    Calls Try.prog 66 #[.string ⟨a.toArray⟩, .string ⟨n.toArray⟩, .bool tk] w fun e w' => e = .returned (.int .i64 (nameE a n tk)) ∧ Below w.heap.size w w' := by
  have CI := fun w => Ident_any ⟨n.toArray⟩ w (by show n.length ≤ maxLen; exact hn)
  rw [show (⟨n.toArray⟩ : ByteArray).data.toList = n from rfl] at CI
  have e1 := toList_mk' n
  have e2 := toList_mk' a
  have hE : nameE a n tk = if (tk || !identB n) = true then 15 else if (Op.bytesLess n a || n == a) = true then 6 else 0 := rfl
  cases tk
  · cases hI : identB n
    · rw [hI] at CI
      rw [hI, if_pos (show (false || !false) = true from rfl)] at hE
      rw [hE]
      have HC := Lib.hid CI; clear CI hI hE
      go_enter Try.func66, Try.ntmps66
      go_wp2_with (go_at_call 86; (with_reducible refine (HC.out _).mono ?_); rintro e w1 ⟨rfl, hb⟩)
      go_ret
      exact ⟨rfl, hb⟩
    · rw [hI] at CI
      rw [hI, if_neg (show ¬ (false || !true) = true by decide)] at hE
      have HC := Lib.hid CI; clear CI hI
      cases hL : (Op.bytesLess n a || n == a)
      · rw [hL, if_neg (by decide)] at hE
        rw [hE]
        clear hE
        go_enter Try.func66, Try.ntmps66
        go_wp2_with (go_at_call 86; (with_reducible refine (HC.out _).mono ?_); rintro e w1 ⟨rfl, hb⟩)
        go_ret
        exact ⟨rfl, hb⟩
      · rw [hL, if_pos rfl] at hE
        rw [hE]
        clear hE
        go_enter Try.func66, Try.ntmps66
        go_wp2_with (go_at_call 86; (with_reducible refine (HC.out _).mono ?_); rintro e w1 ⟨rfl, hb⟩)
        go_ret
        exact ⟨rfl, hb⟩
  · rw [if_pos (show (true || !identB n) = true from rfl)] at hE
    rw [hE]
    clear hE CI
    go_enter Try.func66, Try.ntmps66
    go_wp2_with fail
    go_ret
    exact ⟨rfl, Below.refl _ _⟩
theorem typeWord_cases (s : List UInt8) (h : wordB s = true) : s = [66, 111, 111, 108] ∨ s = [73, 110, 116] ∨ s = [84, 101, 120, 116] ∨ s = [76, 105, 115, 116] ∨ s = [77, 97, 112] ∨ s = [79, 112, 116] ∨ s = [85, 110, 105, 111, 110] := by
  unfold wordB at h
  simpa using h
theorem typeWord_no (s : List UInt8) (h : wordB s = false) : (s == [66, 111, 111, 108]) = false ∧ (s == [73, 110, 116]) = false ∧ (s == [84, 101, 120, 116]) = false ∧ (s == [76, 105, 115, 116]) = false ∧ (s == [77, 97, 112]) = false ∧ (s == [79, 112, 116]) = false ∧ (s == [85, 110, 105, 111, 110]) = false := by
  unfold wordB at h
  simpa using h
set_option maxHeartbeats 4000000 in
theorem typeWord_any (s : List UInt8) (w : World) :
    Calls Try.prog 67 #[.string ⟨s.toArray⟩] w fun e w' => e = .returned (.bool (wordB s)) ∧ w = w' := by
  cases hb : wordB s
  · have e1 := toList_mk' s
    obtain ⟨t0, t1, t2, t3, t4, t5, t6⟩ := typeWord_no s hb
    go_enter Try.func67, Try.ntmps67
    go_wp2
    go_ret
    exact ⟨rfl, rfl⟩
  · rcases typeWord_cases s hb with rfl | rfl | rfl | rfl | rfl | rfl | rfl
    all_goals
      go_enter Try.func67, Try.ntmps67
      go_wp2
      go_ret
      exact ⟨rfl, rfl⟩
end Sp
end Go.Proofs.Ytdophmlnmbcjlaa
namespace Go.Proofs.Ytdophmlnmbcjlaa
open Go.RowKit
namespace Sp
open Sc
theorem row_at {w : World} {wb : Nat} {S : Nat → Prop} {a : Option Addr} {k : Nat} {l : List (List Value)} (h : RowV w S a k l) (hS : ∀ g, S g → g < wb) (j : Nat) (hj : j < l.length) :
    ∃ g o, a = some ⟨g, o, none⟩ ∧ g < wb ∧ ∀ W, Below wb w W → ∀ i v, (l[j])[i]? = some v → W.cell? ⟨g, o + j * k + i, none⟩ = some v := by
  rcases h with h | ⟨g, o, ha, hg, hc⟩
  · rw [h] at hj; exact absurd hj (by simp)
  · refine ⟨g, o, ha, hS g hg, fun W hW i v hv => ?_⟩
    rw [hW.cell (p := ⟨g, o + j * k + i, none⟩) (hS g hg)]
    exact hc j hj i v hv
theorem name_at {w : World} {wb : Nat} {S : Nat → Prop} {a : Option Addr} {ns : List (List UInt8)} (h : RowV w S a 1 (ns.map fun n => [str n])) (hS : ∀ g, S g → g < wb) (j : Nat) (hj : j < ns.length) :
    ∃ g o, a = some ⟨g, o, none⟩ ∧ g < wb ∧ ∀ W, Below wb w W → W.cell? ⟨g, o + j, none⟩ = some (.string ⟨ns[j].toArray⟩) := by
  obtain ⟨g, o, e, hg, hc⟩ := row_at h hS j (by rw [List.length_map]; exact hj)
  refine ⟨g, o, e, hg, fun W hW => ?_⟩
  have := hc W hW 0 (str ns[j]) (by simp)
  rwa [Nat.mul_one, Nat.add_zero] at this
/-- What is told of the names, as far as they were gone through. -/
def FRel (w : World) (ns : List (List UInt8)) (tk : List UInt8 → Bool) (av iv : Value) (wr : World) (j : Nat) : Prop :=
  ∃ a : List UInt8, j ≤ ns.length ∧ av = .string ⟨a.toArray⟩ ∧ iv = .int .i64 j ∧ Hid (namesE tk [] ns = namesE tk a (ns.drop j)) ∧ Hid (Below w.heap.size w wr)
set_option maxRecDepth 100000 in
set_option maxHeartbeats 8000000 in
theorem fieldNames_any (k : Int) (nm : List UInt8) (ns : List (List UInt8)) (an ak : Option Addr) (cn nk ck : Nat) (w : World) (S : Nat → Prop)
    (hn : RowV w S an 1 (ns.map fun n => [str n])) (hS : ∀ g, S g → g < w.heap.size) (hl : ∀ i (h : i < ns.length), ns[i].length ≤ maxLen) (hnl : ns.length ≤ maxLen) :
    Calls Try.prog 89 #[.agg #[.int .i64 k, .string ⟨nm.toArray⟩, .slice an ns.length cn, .slice ak nk ck]] w fun e w' => e = .returned (.int .i64 (fieldE k ns)) ∧ Below w.heap.size w w' := by
  obtain ⟨W0, hW0⟩ : ∃ W0, W0 = w.alloc (.cells #[.int .i64 k, .string ⟨nm.toArray⟩, .slice an ns.length cn, .slice ak nk ck] 30) := ⟨_, rfl⟩
  have hb0 : Below w.heap.size w W0 := by rw [hW0]; exact (Below.refl _ _).alloc (Nat.le_refl _) _
  have hblk : W0.heap[w.heap.size]? = some (.cells #[.int .i64 k, .string ⟨nm.toArray⟩, .slice an ns.length cn, .slice ak nk ck] 30 (0, 0)) := by rw [hW0]; exact heap_alloc_new w _
  have hs0 : W0.heap.size = w.heap.size + 1 := by rw [hW0]; simp
  unfold maxLen at hnl
  by_cases h8 : 8 < ns.length
  · have hE : fieldE k ns = 3 := by unfold fieldE; rw [if_pos h8]
    rw [hE]
    have h8z : 8 < (ns.length : Int) := by omega
    clear hE h8 hn hl hS
    generalize ns.length = nn at *
    subst hW0
    go_enter Try.func89, Try.ntmps89
    go_wp2
    go_ret
    exact ⟨rfl, hb0⟩
  · have h8z : ¬ 8 < (ns.length : Int) := by omega
    have HN := Lib.hid hn; have HS := Lib.hid hS; have HB0 := Lib.hid hb0; have HBK := Lib.hid hblk; have HLL := Lib.hid hl
    have hE : fieldE k ns = if namesE (fun _ => false) [] ns ≠ 0 then namesE (fun _ => false) [] ns else if k = 8 ∧ ns.length = 0 then 12 else 0 := by unfold fieldE; rw [if_neg h8]
    obtain ⟨v, hv⟩ : ∃ v, v = fieldE k ns := ⟨_, rfl⟩
    rw [← hv]
    rw [hE] at hv
    have HV := Lib.hid hv
    clear hn hS hb0 hblk hl hE hv
    go_enter Try.func89, Try.ntmps89
    go_wp2
    rw [← hW0]
    go_loopw [3, 14] (fun av iv wr => ∃ j, FRel W0 ns (fun _ => false) av iv wr j) (fun _ iv _ => ns.length - (intOf iv).toNat)
    case atStart => exact ⟨0, [], Nat.zero_le _, rfl, rfl, rfl, Below.refl _ _⟩
    case round =>
      obtain ⟨j, a, hj, rfl, rfl, hq, hB⟩ := hrel
      obtain ⟨⟨p0, p1, p2, p3⟩, _⟩ := four_blk ((hB.out.block w.heap.size (by omega)).trans HBK.out)
      have hBw := HB0.out.trans (hB.out.mono (by omega))
      have HBW := Lib.hid hBw; clear hBw
      by_cases hlt : j < ns.length
      · obtain ⟨g, o, rfl, hg, hc⟩ := name_at HN.out HS.out j hlt
        have c0 := hc wr HBW.out
        have hnl2 := HLL.out j hlt
        have CE := nameError_any a ns[j] false
        have hd : ns.drop j = ns[j] :: ns.drop (j + 1) := List.drop_eq_getElem_cons hlt
        have hstep : namesE (fun _ => false) a (ns.drop j) = if nameE a ns[j] false = 0 then namesE (fun _ => false) ns[j] (ns.drop (j + 1)) else nameE a ns[j] false := by rw [hd]; rfl
        have hq2 := hq.out
        rw [hstep] at hq2
        have HQ := Lib.hid hq2; have HC := Lib.hid CE; have HLN := Lib.hid hnl2
        have hjz : (j : Int) < (ns.length : Int) := by omega
        clear hc hd hstep hq2 CE hq hnl2
        generalize ns[j] = x at *
        by_cases h0 : nameE a x false = 0
        · rw [if_pos h0] at HQ
          rw [h0] at HC
          clear h0
          go_wp2_with (go_at_call 66; (with_reducible refine (HC.out _ HLN.out).mono ?_); rintro e w1 ⟨rfl, hb1⟩)
          go_roundw
          case rel => exact ⟨j + 1, x, by omega, rfl, by go_num, HQ, (hB.out.trans (hb1.mono hB.out.size))⟩
          case measure => simp [intOf]; omega
        · rw [if_neg h0] at HQ
          have t0 : ((nameE a x false : Nat) == (0 : Int)) = false := by simp; omega
          have hne : (nameE a x false : Int) ≠ 0 := by omega
          generalize nameE a x false = e at *
          go_wp2_with (go_at_call 66; (with_reducible refine (HC.out _ HLN.out).mono ?_); rintro e w1 ⟨rfl, hb1⟩)
          go_ret
          refine ⟨?_, HB0.out.trans ((hB.out.trans (hb1.mono hB.out.size)).mono (by omega))⟩
          have hx : v = e := by rw [HV.out, HQ.out]; exact if_pos h0
          rw [hx]
          rfl
      · have hjn : j = ns.length := by omega
        subst hjn
        have hz := hq.out
        rw [List.drop_length] at hz
        have hz2 : namesE (fun _ => false) [] ns = 0 := hz
        have HZ := Lib.hid hz2
        obtain ⟨nn, hnn⟩ : ∃ nn, nn = ns.length := ⟨_, rfl⟩
        have HNN := Lib.hid hnn
        rw [← hnn] at p2 h8z
        clear hz hz2 hq hnn
        by_cases k8 : k = 8
        · subst k8
          by_cases n0 : nn = 0
          · subst n0
            rw [← HNN.out]
            go_wp2
            go_ret
            refine ⟨?_, HBW.out⟩
            have hx : v = 12 := by have h1 := HV.out; rw [HZ.out] at h1; simpa [← HNN.out] using h1
            rw [hx]
            rfl
          · have tn : ((nn : Int) == 0) = false := by simp; omega
            rw [← HNN.out]
            go_wp2
            go_ret
            refine ⟨?_, HBW.out⟩
            have hx : v = 0 := by rw [HV.out, HZ.out, if_neg (by simp), if_neg (fun h => n0 (HNN.out.trans h.2))]
            rw [hx]
            rfl
        · have t8 : (k == 8) = false := by simpa using k8
          rw [← HNN.out]
          go_wp2
          go_ret
          refine ⟨?_, HBW.out⟩
          have hx : v = 0 := by rw [HV.out, HZ.out, if_neg (by simp), if_neg (fun h => k8 h.1)]
          rw [hx]
          rfl
end Sp
end Go.Proofs.Ytdophmlnmbcjlaa
namespace Go.Proofs.Ytdophmlnmbcjlaa
open Go.RowKit
namespace Sp
open Sc
/-- A named type at five cells. -/
def encZ (x : List UInt8 × C4) : List Value := [str x.1, .int .i64 x.2.k, .string x.2.n, .slice x.2.an x.2.ln x.2.cn, .slice x.2.ak x.2.lk x.2.ck]
theorem named_at {w : World} {wb : Nat} {S : Nat → Prop} {a : Option Addr} {us : List (List UInt8 × C4)} (h : RowV w S a 5 (us.map encZ)) (hS : ∀ g, S g → g < wb) (j : Nat) (hj : j < us.length) :
    ∃ g o, a = some ⟨g, o, none⟩ ∧ g < wb ∧ ∀ W, Below wb w W → W.cell? ⟨g, o + j * 5, none⟩ = some (.string ⟨us[j].1.toArray⟩) ∧ W.cell? ⟨g, o + j * 5 + 1, none⟩ = some (.int .i64 us[j].2.k) ∧ W.cell? ⟨g, o + j * 5 + 2, none⟩ = some (.string us[j].2.n) ∧
      W.cell? ⟨g, o + j * 5 + 3, none⟩ = some (.slice us[j].2.an us[j].2.ln us[j].2.cn) ∧ W.cell? ⟨g, o + j * 5 + 4, none⟩ = some (.slice us[j].2.ak us[j].2.lk us[j].2.ck) := by
  obtain ⟨g, o, e, hg, hc⟩ := row_at h hS j (by rw [List.length_map]; exact hj)
  refine ⟨g, o, e, hg, fun W hW => ?_⟩
  have := fun i v hv => hc W hW i v (by rw [List.getElem_map]; exact hv)
  exact ⟨this 0 _ rfl, this 1 _ rfl, this 2 _ rfl, this 3 _ rfl, this 4 _ rfl⟩
set_option maxRecDepth 100000 in
set_option maxHeartbeats 8000000 in
theorem typeNames_any (us : List (List UInt8 × C4)) (a : Option Addr) (c : Nat) (w : World) (S : Nat → Prop)
    (hn : RowV w S a 5 (us.map encZ)) (hS : ∀ g, S g → g < w.heap.size) (hl : ∀ i (h : i < us.length), us[i].1.length ≤ maxLen) (hnl : us.length ≤ maxLen) :
    Calls Try.prog 41 #[.slice a us.length c] w fun e w' => e = .returned (.int .i64 (namesE wordB [] (us.map (·.1)))) ∧ Below w.heap.size w w' := by
  unfold maxLen at hnl
  have HN := Lib.hid hn; have HS := Lib.hid hS; have HLL := Lib.hid hl
  obtain ⟨v, hv⟩ : ∃ v, v = namesE wordB [] (us.map (·.1)) := ⟨_, rfl⟩
  rw [← hv]
  have HV := Lib.hid hv
  clear hn hS hl hv
  go_enter Try.func41, Try.ntmps41
  go_wp2
  go_loopw [3, 9] (fun av iv wr => ∃ j, FRel w (us.map (·.1)) wordB av iv wr j) (fun _ iv _ => us.length - (intOf iv).toNat)
  case atStart => exact ⟨0, [], Nat.zero_le _, rfl, rfl, rfl, Below.refl _ _⟩
  case round =>
    obtain ⟨j, a, hj, rfl, rfl, hq, hB⟩ := hrel
    rw [List.length_map] at hj
    have hws := hB.out.size
    by_cases hlt : j < us.length
    · obtain ⟨g, o, rfl, hg, hc⟩ := named_at HN.out HS.out j hlt
      obtain ⟨c0, c1, c2, c3, c4⟩ := hc wr hB.out
      have hnl2 := HLL.out j hlt
      have CE := fun tk => nameError_any a us[j].1 tk
      have CT := fun w => typeWord_any us[j].1 w
      have hlm : j < (us.map (·.1)).length := by rw [List.length_map]; exact hlt
      have hd : (us.map (·.1)).drop j = us[j].1 :: (us.map (·.1)).drop (j + 1) := by rw [List.drop_eq_getElem_cons hlm, List.getElem_map]
      have hstep : namesE wordB a ((us.map (·.1)).drop j) = if nameE a us[j].1 (wordB us[j].1) = 0 then namesE wordB us[j].1 ((us.map (·.1)).drop (j + 1)) else nameE a us[j].1 (wordB us[j].1) := by rw [hd]; rfl
      have hq2 := hq.out
      rw [hstep] at hq2
      have HQ := Lib.hid hq2; have HC := Lib.hid CE; have HT := Lib.hid CT; have HLN := Lib.hid hnl2
      have hjz : (j : Int) < (us.length : Int) := by omega
      clear hc hd hstep hq2 CE CT hq hnl2
      generalize us[j] = x at *
      obtain ⟨x, ⟨x1, x2, x3, x4, x5, x6, x7, x8⟩⟩ := x
      dsimp only at *
      by_cases h0 : nameE a x (wordB x) = 0
      · rw [if_pos h0] at HQ
        have HC2 := Lib.hid (HC.out (wordB x))
        rw [h0] at HC2
        clear h0
        generalize wordB x = tk at *
        go_wp2_with fail
        obtain ⟨W1, hW1⟩ : ∃ W1, W1 = wr.alloc (.cells #[.string ⟨x.toArray⟩, .int .i64 x1, .string x2, .slice x3 x4 x5, .slice x6 x7 x8] 44) := ⟨_, rfl⟩
        have f0 : W1.drew.cell? ⟨wr.heap.size, 0, none⟩ = some (.string ⟨x.toArray⟩) := by rw [hW1]; simp
        have fl : wr.heap.size < W1.drew.heap.size := by rw [hW1]; simp
        have hBB : Below wr.heap.size wr W1 := by rw [hW1]; exact (Below.refl _ _).alloc (Nat.le_refl _) _
        have HBB := Lib.hid hBB
        rw [← hW1]
        have f1 : W1.cell? ⟨wr.heap.size, 0, none⟩ = some (.string ⟨x.toArray⟩) := f0
        clear hW1 hBB c0 c1 c2 c3 c4
        go_region_held3 (fun w' => w'.cell? ⟨wr.heap.size, 0, none⟩ = some (.string ⟨x.toArray⟩)) (go_keep) (first
          | (go_at_call 67; (with_reducible refine (HT.out _).mono ?_); rintro e w1 ⟨rfl, rfl⟩)
          | (go_at_call 66; (with_reducible refine (HC2.out _ HLN.out).mono ?_); rintro e w1 ⟨rfl, hb1⟩; have n1 := (hb1.cell (p := ⟨wr.heap.size, 0, none⟩) fl).trans f0))
        all_goals
          have HB1 := Lib.hid (show Below W1.heap.size W1 w1 from ⟨hb1.os, hb1.tape, hb1.output, hb1.size, hb1.block⟩)
          go_wp2
          go_roundw
          case rel => exact ⟨j + 1, x, by rw [List.length_map]; omega, rfl, by go_num, HQ, hB.out.trans ((HBB.out.trans (HB1.out.mono (by have := HBB.out.size; omega))).mono hws)⟩
          case measure => simp [intOf]; omega
      · rw [if_neg h0] at HQ
        have HC2 := Lib.hid (HC.out (wordB x))
        have hne : (nameE a x (wordB x) : Int) ≠ 0 := by omega
        have t0 : ((nameE a x (wordB x) : Nat) == (0 : Int)) = false := by simp; omega
        generalize wordB x = tk at *
        generalize nameE a x tk = e at *
        go_wp2_with fail
        obtain ⟨W1, hW1⟩ : ∃ W1, W1 = wr.alloc (.cells #[.string ⟨x.toArray⟩, .int .i64 x1, .string x2, .slice x3 x4 x5, .slice x6 x7 x8] 44) := ⟨_, rfl⟩
        have f0 : W1.drew.cell? ⟨wr.heap.size, 0, none⟩ = some (.string ⟨x.toArray⟩) := by rw [hW1]; simp
        have fl : wr.heap.size < W1.drew.heap.size := by rw [hW1]; simp
        have hBB : Below wr.heap.size wr W1 := by rw [hW1]; exact (Below.refl _ _).alloc (Nat.le_refl _) _
        have HBB := Lib.hid hBB
        rw [← hW1]
        have f1 : W1.cell? ⟨wr.heap.size, 0, none⟩ = some (.string ⟨x.toArray⟩) := f0
        clear hW1 hBB c0 c1 c2 c3 c4
        go_region_held3 (fun w' => w'.cell? ⟨wr.heap.size, 0, none⟩ = some (.string ⟨x.toArray⟩)) (go_keep) (first
          | (go_at_call 67; (with_reducible refine (HT.out _).mono ?_); rintro e w1 ⟨rfl, rfl⟩)
          | (go_at_call 66; (with_reducible refine (HC2.out _ HLN.out).mono ?_); rintro e w1 ⟨rfl, hb1⟩; have n1 := (hb1.cell (p := ⟨wr.heap.size, 0, none⟩) fl).trans f0))
        all_goals
          have HB1 := Lib.hid (show Below W1.heap.size W1 w1 from ⟨hb1.os, hb1.tape, hb1.output, hb1.size, hb1.block⟩)
          go_wp2
          go_ret
          refine ⟨?_, hB.out.trans ((HBB.out.trans (HB1.out.mono (by have := HBB.out.size; omega))).mono hws)⟩
          have hx : v = e := by rw [HV.out, HQ.out]
          rw [hx]
          rfl
    · have hjn : j = (us.map (·.1)).length := by rw [List.length_map]; omega
      have hz := hq.out
      rw [hjn, List.drop_length] at hz
      have HZ := Lib.hid (show namesE wordB [] (us.map (·.1)) = 0 from hz)
      rw [List.length_map] at hjn
      subst hjn
      clear hz hq
      go_wp2
      go_ret
      refine ⟨?_, hB.out⟩
      have hx : v = 0 := by rw [HV.out, HZ.out]
      rw [hx]
      rfl
end Sp
end Go.Proofs.Ytdophmlnmbcjlaa
namespace Go.Proofs.Ytdophmlnmbcjlaa
open Go.RowKit
namespace Sp
open Sc
set_option maxRecDepth 100000 in
set_option maxHeartbeats 8000000 in
theorem meanings_any (us : List (List UInt8 × C4)) (a : Option Addr) (c : Nat) (w : World) (S : Nat → Prop)
    (hn : RowV w S a 5 (us.map encZ)) (hS : ∀ g, S g → g < w.heap.size) (hl : ∀ i (h : i < us.length), us[i].1.length ≤ maxLen) (hnl : us.length < maxLen) :
    Calls Try.prog 42 #[.slice a us.length c] w fun e w' => ∃ mb, e = .returned (.map (some mb)) ∧ w.heap.size ≤ mb ∧ MapV w' mb us ∧ Below w.heap.size w w' := by
  have hnl2 := hnl
  unfold maxLen at hnl2
  have HN := Lib.hid hn; have HS := Lib.hid hS; have HLL := Lib.hid hl; have HNL := Lib.hid hnl
  have hM0 := MapV.made w
  have hb0 : Below w.heap.size w (w.alloc (.map #[] 0)) := (Below.refl _ _).alloc (Nat.le_refl _) _
  have hs0 : (w.alloc (.map #[] 0)).heap.size = w.heap.size + 1 := by simp
  have HM0 := Lib.hid hM0; have HB0 := Lib.hid hb0
  clear hn hS hl hM0 hb0 hnl
  have hmm := @run_makeMap Try.prog
  go_enter Try.func42, Try.ntmps42
  go_wp2
  go_loopw [9] (fun iv wr => ∃ j, j ≤ us.length ∧ iv = .int .i64 j ∧ Hid (MapV wr w.heap.size (us.take j)) ∧ Hid (Below w.heap.size w wr)) (fun iv _ => us.length - (intOf iv).toNat)
  case atStart => exact ⟨0, Nat.zero_le _, rfl, HM0, HB0⟩
  case round =>
    obtain ⟨j, hj, rfl, hM, hB⟩ := hrel
    have hws := hB.out.size
    have hml := hM.out.lt
    by_cases hlt : j < us.length
    · obtain ⟨g, o, rfl, hg, hc⟩ := named_at HN.out HS.out j hlt
      obtain ⟨c0, c1, c2, c3, c4⟩ := hc wr hB.out
      have hnx := HLL.out j hlt
      have htk : us.take (j + 1) = us.take j ++ [us[j]] := by rw [List.take_add_one, List.getElem?_eq_getElem hlt]; rfl
      have HTK := Lib.hid htk
      have hjz : (j : Int) < (us.length : Int) := by omega
      have htl : (us.take j).length < maxLen := by rw [List.length_take]; have := HNL.out; omega
      clear hc htk
      generalize us[j] = x at *
      obtain ⟨x, ⟨x1, x2, x3, x4, x5, x6, x7, x8⟩⟩ := x
      dsimp only at *
      obtain ⟨W1, hW1⟩ : ∃ W1, W1 = wr.alloc (.cells #[.string ⟨x.toArray⟩, .int .i64 x1, .string x2, .slice x3 x4 x5, .slice x6 x7 x8] 44) := ⟨_, rfl⟩
      have hBB : Below wr.heap.size wr W1 := by rw [hW1]; exact (Below.refl _ _).alloc (Nat.le_refl _) _
      have hM1 := hM.out.below hBB
      have hs1 := hBB.size
      have f0 : W1.cell? ⟨wr.heap.size, 0, none⟩ = some (.string ⟨x.toArray⟩) := by rw [hW1]; simp
      have f1 : W1.cell? ⟨wr.heap.size, 1, none⟩ = some (.int .i64 x1) := by rw [hW1]; simp
      have f2 : W1.cell? ⟨wr.heap.size, 2, none⟩ = some (.string x2) := by rw [hW1]; simp
      have f3 : W1.cell? ⟨wr.heap.size, 3, none⟩ = some (.slice x3 x4 x5) := by rw [hW1]; simp
      have f4 : W1.cell? ⟨wr.heap.size, 4, none⟩ = some (.slice x6 x7 x8) := by rw [hW1]; simp
      obtain ⟨w', hrun, hM', hgr⟩ := hM1.put x ⟨x1, x2, x3, x4, x5, x6, x7, x8⟩ hnx htl
      unfold C4.val at hrun
      dsimp only at hrun
      have HM' := Lib.hid hM'; have HGR := Lib.hid hgr; have HBB := Lib.hid hBB
      clear hM1 hM' hgr hBB
      subst hW1
      go_wp2
      go_roundw
      case rel => exact ⟨j + 1, by omega, by go_num, by unfold Hid; rw [HTK.out]; exact HM'.out, (hB.out.trans (HBB.out.mono hws)).grown HGR.out (by omega) (fun k hk => by cases hk; exact Nat.le_refl _)⟩
      case measure => simp [intOf]; omega
    · have hjn : j = us.length := by omega
      subst hjn
      have hz := hM.out
      rw [List.take_length] at hz
      have HZ := Lib.hid hz
      clear hz hM
      go_wp2
      go_ret
      exact ⟨_, rfl, Nat.le_refl _, HZ.out, hB.out⟩
end Sp
end Go.Proofs.Ytdophmlnmbcjlaa
