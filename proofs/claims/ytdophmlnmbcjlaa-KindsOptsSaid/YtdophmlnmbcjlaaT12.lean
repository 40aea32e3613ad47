/- round: who is known behind one round. -/
import Derived.Test.YtdophmlnmbcjlaaT11
namespace Go.Proofs.Ytdophmlnmbcjlaa
open Go.RowKit
namespace Sp
open Sc
/-- The blocks of w are as they were, but for two; there may be new ones. -/
structure Two (fb mb : Nat) (w w' : World) : Prop where
  os : w'.os = w.os
  tape : w'.tape = w.tape
  output : w'.output = w.output
  size : w.heap.size ≤ w'.heap.size
  block : ∀ k, k < w.heap.size → k ≠ fb → k ≠ mb → w'.heap[k]? = w.heap[k]?
theorem Two.refl (fb mb : Nat) (w : World) : Two fb mb w w := ⟨rfl, rfl, rfl, Nat.le_refl _, fun _ _ _ _ => rfl⟩
theorem Two.trans {fb mb : Nat} {a b c : World} (h : Two fb mb a b) (k : Two fb mb b c) : Two fb mb a c :=
  ⟨k.os.trans h.os, k.tape.trans h.tape, k.output.trans h.output, Nat.le_trans h.size k.size, fun i hi h1 h2 => (k.block i (Nat.lt_of_lt_of_le hi h.size) h1 h2).trans (h.block i hi h1 h2)⟩
theorem Two.of_only {fb mb : Nat} {w w' : World} (h : Only fb w w') : Two fb mb w w' := ⟨h.os, h.tape, h.output, h.size, fun k hk h1 _ => h.block k hk (fun e => h1 (by cases e; rfl))⟩
theorem Two.of_map {fb mb : Nat} {w w' : World} (h : w.grownBy w' (some mb)) : Two fb mb w w' := ⟨h.os, h.tape, h.output, h.size, fun k hk _ h2 => h.block k hk (fun e => h2 (by cases e; rfl))⟩
theorem Two.of_below {fb mb : Nat} {w w' : World} (h : Below w.heap.size w w') : Two fb mb w w' := Two.of_only (Only.of_below h)
theorem Two.below {fb mb B : Nat} {w w' : World} (h : Two fb mb w w') (h1 : B ≤ fb) (h2 : B ≤ mb) (hB : B ≤ w.heap.size) : Below B w w' :=
  ⟨h.os, h.tape, h.output, h.size, fun k hk => h.block k (Nat.lt_of_lt_of_le hk hB) (by omega) (by omega)⟩
theorem Below.of_drew {w w' : World} (h : Below w.drew.heap.size w.drew w') : Below w.heap.size w w' := ⟨h.os, h.tape, h.output, h.size, h.block⟩
theorem once_snoc {K : List (List UInt8 × C4)} {x : List UInt8} {c : C4} (h : once K) (hn : hasZ K x = false) : once (K ++ [(x, c)]) := by
  unfold once at *
  rw [List.map_append, List.nodup_append]
  refine ⟨h, by simp, fun a ha b hb e => ?_⟩
  simp only [List.map_cons, List.map_nil, List.mem_singleton] at hb
  subst e; subst hb
  obtain ⟨y, hy, e⟩ := List.mem_map.1 ha
  unfold hasZ at hn
  rw [List.any_eq_false] at hn
  exact hn y hy (by simpa using e)
set_option maxRecDepth 100000 in
set_option maxHeartbeats 16000000 in
theorem round_any (fb mb : Nat) (S : Nat → Prop) (l : List NT) (us : List (List UInt8 × C4)) (a : Option Addr) (c : Nat) (K0 : List (List UInt8 × C4)) (Z0 : List NT) (n0 : Nat) (w : World)
    (hS : ∀ g, S g → g < fb ∧ g < mb) (hm : mb < fb) (hf : ∀ i (h : i < l.length), l[i].1.length ≤ maxLen ∧ fitZ l[i].2 = true) (hlen : us.length = l.length) (hll : K0.length + l.length < maxLen)
    (hr : RowV w S a 5 (us.map encZ)) (hu : ∀ i (h : i < l.length) (h' : i < us.length), us[i].1 = l[i].1 ∧ TzV w S l[i].2 us[i].2)
    (hn : n0 ≤ 65536) (hC : FnE w fb mb n0) (hM : MapV w mb K0) (hO : once K0) (hK : K0.map (·.1) = Z0.map (·.1)) :
    Calls Try.prog 70 #[.pointer (some ⟨fb, 0, none⟩), .slice a l.length c] w fun e w' =>
      e = .returned (.bool (decide (Z0.length < (roundZ Z0 n0 l).1.length))) ∧ FnE w' fb mb (roundZ Z0 n0 l).2 ∧
      (∃ K, MapV w' mb K ∧ once K ∧ K.map (·.1) = (roundZ Z0 n0 l).1.map (·.1) ∧ K.length ≤ K0.length + l.length) ∧ Two fb mb w w' := by
  have hcb := hC.lt
  obtain ⟨v, hv⟩ : ∃ v, v = roundZ Z0 n0 l := ⟨_, rfl⟩
  rw [← hv]
  have hll2 : l.length ≤ 9223372036854775807 := by unfold maxLen at hll; omega
  have hk0 : K0.length = Z0.length := by have := congrArg List.length hK; simpa using this
  have hk0b : Z0.length ≤ 9223372036854775807 := by unfold maxLen at hll; omega
  have hlenK := fun w (hM : MapV w mb K0) => hM.len hO 3
  rw [hk0] at hlenK
  have hml0 := hlenK w hM
  obtain ⟨⟨s0, s1⟩, _⟩ := two_blk hC
  have HV := Lib.hid hv; have HS := Lib.hid hS; have HC := Lib.hid hC; have HM := Lib.hid hM; have HR := Lib.hid hr; have HU := Lib.hid hu; have HF := Lib.hid hf; have HO := Lib.hid hO; have HK := Lib.hid hK; have HLL := Lib.hid hll; have HN := Lib.hid hn; have HK0 := Lib.hid hk0; have HLEN := Lib.hid hlen
  clear hv hS hC hM hr hu hf hO hK hll hlenK hk0 hlen
  go_enter Try.func70, Try.ntmps70
  go_wp2
  clear hml0 s0 s1
  go_loopw [15] (fun iv wr => ∃ j m K Z, j ≤ l.length ∧ m ≤ 65536 ∧ iv = .int .i64 j ∧ Hid (roundZ Z0 n0 l = roundZ Z m (l.drop j)) ∧ Hid (FnE wr fb mb m) ∧ Hid (MapV wr mb K) ∧ Hid (once K) ∧ Hid (K.map (·.1) = Z.map (·.1)) ∧ Hid (K.length ≤ K0.length + j) ∧ Hid (Two fb mb w wr)) (fun iv _ => l.length - (intOf iv).toNat)
  case atStart => exact ⟨0, n0, K0, Z0, Nat.zero_le _, HN.out, rfl, rfl, HC, HM, HO, HK, Nat.le_refl _, Two.refl _ _ _⟩
  case round =>
    obtain ⟨j, m, K, Z, hj, hm4, rfl, hq, hCk, hMk, hOk, hKk, hLk, hT⟩ := hrel
    have hws := hT.out.size
    by_cases hlt : j < l.length
    · have hlu : j < us.length := by have := HLEN.out; omega
      have kb : ∀ g, S g → wr.heap[g]? = w.heap[g]? := fun g hg => by have := HS.out g hg; exact hT.out.block g (by omega) (by omega) (by omega)
      have hRr := HR.out.keep (fun _ h => h) kb
      obtain ⟨g, o, rfl, hg, hc⟩ := nam_at hRr (fun g hg => (HS.out g hg).2) j hlu
      obtain ⟨q0, q1, q2, q3, q4⟩ := hc wr (fun _ _ => rfl)
      obtain ⟨y1, y2⟩ := HU.out j hlt hlu
      have y3 := y2.keep (fun _ h => h) kb
      have hft := HF.out j hlt
      have hdr : l.drop j = l[j] :: l.drop (j + 1) := List.drop_eq_getElem_cons hlt
      have hstep : roundZ Z m (l.drop j) = if hasZ Z l[j].1 = true then roundZ Z m (l.drop (j + 1)) else if (finZ (hasZ Z) m l[j].2).1 = true then roundZ (Z ++ [l[j]]) (finZ (hasZ Z) m l[j].2).2 (l.drop (j + 1)) else roundZ Z (finZ (hasZ Z) m l[j].2).2 (l.drop (j + 1)) := by rw [hdr]; rfl
      have hq2 := hq.out
      rw [hstep] at hq2
      have hhk : hasZ K = hasZ Z := funext (hasZ_names K Z hKk.out)
      rw [← hhk] at hq2
      have hle := finZ_le (hasZ K) l[j].2 m
      have hjz : (j : Int) < (l.length : Int) := by omega
      have hdj : l.drop j = l[j] :: l.drop (j + 1) := hdr
      clear hc hdr hstep hq kb hRr y2
      generalize l[j] = t at *
      generalize us[j] = x at *
      obtain ⟨xn, ⟨z1, z2, z3, z4, z5, z6, z7, z8⟩⟩ := x
      obtain ⟨tn, tt⟩ := t
      dsimp only at *
      subst y1
      obtain ⟨W1, hW1⟩ : ∃ W1, W1 = wr.alloc (.cells #[.string ⟨xn.toArray⟩, .int .i64 z1, .string z2, .slice z3 z4 z5, .slice z6 z7 z8] 44) := ⟨_, rfl⟩
      have hBB : Below wr.heap.size wr W1 := by rw [hW1]; exact (Below.refl _ _).alloc (Nat.le_refl _) _
      have hs1 : W1.heap.size = wr.heap.size + 1 := by rw [hW1]; simp
      have f0 : W1.cell? ⟨wr.heap.size, 0, none⟩ = some (.string ⟨xn.toArray⟩) := by rw [hW1]; simp
      have f1 : W1.cell? ⟨wr.heap.size, 1, none⟩ = some (.int .i64 z1) := by rw [hW1]; simp
      have f2 : W1.cell? ⟨wr.heap.size, 2, none⟩ = some (.string z2) := by rw [hW1]; simp
      have f3 : W1.cell? ⟨wr.heap.size, 3, none⟩ = some (.slice z3 z4 z5) := by rw [hW1]; simp
      have f4 : W1.cell? ⟨wr.heap.size, 4, none⟩ = some (.slice z6 z7 z8) := by rw [hW1]; simp
      have hC1 := hCk.out.below hBB
      have hM1 := hMk.out.below hBB
      obtain ⟨⟨f5, _⟩, _⟩ := two_blk hC1
      have CH := fun W (hB : Below W1.heap.size W1 W) => has_any W mb K xn (hM1.below hB) hft.1
      have CF := fun W (hB : Below W1.heap.size W1 W) => finP fb mb K S (fun g hg => (HS.out g hg).1) (by omega) tt hft.2 m W ⟨z1, z2, z3, z4, z5, z6, z7, z8⟩ hm4 (y3.later (fun g hg => by have := HS.out g hg; have := hCk.out.lt; omega) hBB |>.later (fun g hg => by have := HS.out g hg; have := hCk.out.lt; omega) hB) (hC1.below hB) (hM1.below hB)
      unfold C4.val at CF
      dsimp only at CF
      have hTW := hT.out.trans (Two.of_below (fb := fb) (mb := mb) hBB)
      have HTW := Lib.hid hTW; have HLE := Lib.hid hle; have HCH := Lib.hid CH; have HCF := Lib.hid CF; have HC1 := Lib.hid hC1; have HM1 := Lib.hid hM1; have HFT := Lib.hid hft
      have hfl := hCk.out.lt
      clear hTW hle CH CF hC1 hM1 y3 hBB hft hhk hdj
      have HW1 := Lib.hid hW1
      clear hW1
      cases hhas : hasZ K xn
      · rw [hhas, if_neg (by decide)] at hq2
        have CH2 := HCH.out
        simp only [hhas] at CH2
        have HCH2 := Lib.hid CH2
        have HHAS := Lib.hid hhas
        clear CH2 hhas
        have HBD := Lib.hid (Below.refl W1.heap.size W1).drew
        have g0 : W1.drew.cell? ⟨wr.heap.size, 0, none⟩ = some (.string ⟨xn.toArray⟩) := f0
        have g1 : W1.drew.cell? ⟨wr.heap.size, 1, none⟩ = some (.int .i64 z1) := f1
        have g2 : W1.drew.cell? ⟨wr.heap.size, 2, none⟩ = some (.string z2) := f2
        have g3 : W1.drew.cell? ⟨wr.heap.size, 3, none⟩ = some (.slice z3 z4 z5) := f3
        have g4 : W1.drew.cell? ⟨wr.heap.size, 4, none⟩ = some (.slice z6 z7 z8) := f4
        have g5 : W1.drew.cell? ⟨fb, 0, none⟩ = some (.map (some mb)) := f5
        have hl1 : wr.heap.size < W1.drew.heap.size := by show wr.heap.size < W1.heap.size; omega
        have hl2 : fb < W1.drew.heap.size := by show fb < W1.heap.size; omega
        have hne : wr.heap.size ≠ fb := by omega
        go_wp2_with fail
        rw [← HW1.out]
        generalize hqq : finZ (hasZ K) m tt = q at *
        obtain ⟨q1, q2⟩ := q
        dsimp only at *
        have hq65 : q2 ≤ 65536 := by have := HLE.out; omega
        have HQ := Lib.hid hq2
        clear hq2 hqq
        go_region_held3 (fun w' => w'.cell? ⟨wr.heap.size, 0, none⟩ = some (.string ⟨xn.toArray⟩) ∧ w'.cell? ⟨wr.heap.size, 1, none⟩ = some (.int .i64 z1) ∧ w'.cell? ⟨wr.heap.size, 2, none⟩ = some (.string z2) ∧ w'.cell? ⟨wr.heap.size, 3, none⟩ = some (.slice z3 z4 z5) ∧ w'.cell? ⟨wr.heap.size, 4, none⟩ = some (.slice z6 z7 z8) ∧ w'.cell? ⟨fb, 0, none⟩ = some (.map (some mb))) (go_keep) (first
          | (go_at_call 88; (refine (HCH2.out _ HBD.out).mono ?_); rintro e w3 ⟨rfl, b3⟩; have n0 := (b3.cell (p := ⟨wr.heap.size, 0, none⟩) hl1).trans g0; have n1 := (b3.cell (p := ⟨wr.heap.size, 1, none⟩) hl1).trans g1; have n2 := (b3.cell (p := ⟨wr.heap.size, 2, none⟩) hl1).trans g2; have n3 := (b3.cell (p := ⟨wr.heap.size, 3, none⟩) hl1).trans g3; have n4 := (b3.cell (p := ⟨wr.heap.size, 4, none⟩) hl1).trans g4; have n5 := (b3.cell (p := ⟨fb, 0, none⟩) hl2).trans g5; have HB3 := Lib.hid (Below.of_drew b3); have hl3 := Nat.lt_of_lt_of_le hl1 b3.size)
          | (go_at_call 91; (refine (HCF.out _ HB3.out).mono ?_); rintro e w4 ⟨rfl, k4, o4⟩; have m0 := (o4.cell (o := 0) hl3 hne).trans n0; have m1 := (o4.cell (o := 1) hl3 hne).trans n1; have m2 := (o4.cell (o := 2) hl3 hne).trans n2; have m3 := (o4.cell (o := 3) hl3 hne).trans n3; have m4 := (o4.cell (o := 4) hl3 hne).trans n4; have m5 := (two_blk k4).1.1))
        all_goals
          have HC4 := Lib.hid k4
          have hM4 : MapV w4 mb K := (HM1.out.below HB3.out).keep o4 (by simpa using fun e => absurd e (by omega : mb ≠ fb))
          have HT4 := Lib.hid (HTW.out.trans ((Two.of_below HB3.out).trans (Two.of_only o4)))
          have hfr : mb < w4.heap.size := hM4.lt
          have HM4 := Lib.hid hM4
          clear n0 n1 n2 n3 n4 n5 g0 g1 g2 g3 g4 g5 f0 f1 f2 f3 f4 f5 k4 o4 b3 hM4
          cases q1
          · have HQ2 := HQ.out
            rw [if_neg (by decide)] at HQ2
            have HQ2 := Lib.hid HQ2
            go_wp2
            go_roundw
            case rel => exact ⟨j + 1, q2, K, Z, by omega, hq65, by go_num, HQ2, HC4, HM4, hOk, hKk, Lib.hid (by have := hLk.out; omega), HT4⟩
            case measure => simp [intOf]; omega
          · have HQ2 := HQ.out
            rw [if_pos rfl] at HQ2
            have HQ2 := Lib.hid HQ2
            have hkl : K.length < maxLen := by have := hLk.out; have := HLL.out; omega
            obtain ⟨w5, hrun, hM5, hg5⟩ := (HM4.out.drew).put xn ⟨z1, z2, z3, z4, z5, z6, z7, z8⟩ HFT.out.1 hkl
            unfold C4.val at hrun
            dsimp only at hrun
            have HM5 := Lib.hid hM5
            have HC5 : Hid (FnE w5 fb mb q2) := (hg5.block fb HC4.out.lt (by simpa using fun e => absurd e (by omega : fb ≠ mb))).trans HC4.out
            have HT5 : Hid (Two fb mb w w5) := HT4.out.trans (Two.of_map ⟨hg5.os, hg5.tape, hg5.output, hg5.size, hg5.block⟩)
            have HO5 := Lib.hid (once_snoc hOk.out HHAS.out (c := ⟨z1, z2, z3, z4, z5, z6, z7, z8⟩))
            have HK5 : Hid ((K ++ [(xn, (⟨z1, z2, z3, z4, z5, z6, z7, z8⟩ : C4))]).map (·.1) = (Z ++ [(xn, tt)]).map (·.1)) := by unfold Hid; rw [List.map_append, List.map_append, hKk.out]; rfl
            have HL5 : Hid ((K ++ [(xn, (⟨z1, z2, z3, z4, z5, z6, z7, z8⟩ : C4))]).length ≤ K0.length + (j + 1)) := by unfold Hid; rw [List.length_append, List.length_singleton]; have := hLk.out; omega
            clear hM5 hg5
            go_wp2_with fail
            go_region
            all_goals
              go_wp2
              go_roundw
              case rel => exact ⟨j + 1, q2, _, _, by omega, hq65, by go_num, HQ2, HC5, HM5, HO5, HK5, HL5, HT5⟩
              case measure => simp [intOf]; omega
      · rw [hhas, if_pos rfl] at hq2
        have HQ := Lib.hid hq2
        have CH2 := HCH.out
        simp only [hhas] at CH2
        have HCH2 := Lib.hid CH2
        have HBD := Lib.hid (Below.refl W1.heap.size W1).drew
        clear CH2 hhas hq2
        go_wp2_with fail
        rw [← HW1.out]
        have f0d : W1.drew.cell? ⟨wr.heap.size, 0, none⟩ = some (.string ⟨xn.toArray⟩) := f0
        have f5d : W1.drew.cell? ⟨fb, 0, none⟩ = some (.map (some mb)) := f5
        have hl1 : wr.heap.size < W1.drew.heap.size := by show wr.heap.size < W1.heap.size; omega
        have hl2 : fb < W1.drew.heap.size := by show fb < W1.heap.size; omega
        clear f1 f2 f3 f4
        first
          | (go_region_with (first | (go_at_call 88; (refine (HCH2.out _ HBD.out).mono ?_); rintro e w3 ⟨rfl, b3⟩)))
          | fail
        all_goals
          go_wp2
          go_roundw
          case rel => exact ⟨j + 1, m, K, Z, by omega, hm4, by go_num, HQ, HC1.out.below (Below.of_drew b3), HM1.out.below (Below.of_drew b3), hOk, hKk, Lib.hid (by have := hLk.out; omega), HTW.out.trans (Two.of_below (Below.of_drew b3))⟩
          case measure => simp [intOf]; omega
    · have hjn : j = l.length := by omega
      subst hjn
      have hz := hq.out
      rw [List.drop_length] at hz
      have hz2 : roundZ Z0 n0 l = (Z, m) := hz
      have hx : v = (Z, m) := by rw [HV.out, hz2]
      have hkz : K.length = Z.length := by have := congrArg List.length hKk.out; simpa using this
      have hlk := hMk.out.len hOk.out 3
      rw [hkz] at hlk
      have hkb : Z.length ≤ 9223372036854775807 := by have := hLk.out; have := HLL.out; unfold maxLen at this; omega
      obtain ⟨⟨s0, s1⟩, _⟩ := two_blk hCk.out
      have HX := Lib.hid hx; have HLK := Lib.hid hLk.out
      clear hz hz2 hq hx hkz
      go_wp2
      go_ret
      rw [HX.out]
      refine ⟨?_, hCk.out, ⟨K, hMk.out, hOk.out, hKk.out, HLK.out⟩, hT.out⟩
      simp
end Sp
end Go.Proofs.Ytdophmlnmbcjlaa
