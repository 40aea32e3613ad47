/- schema: all types and functions of a schema. -/
import Derived.Test.YtdophmlnmbcjlaaT9
namespace Go.Proofs.Ytdophmlnmbcjlaa
open Go.RowKit
namespace Sp
open Sc
/-- A schema in memory: its type's cells, its named types' and its functions'. -/
structure SzV (w : World) (S : Nat → Prop) (s : Sz) (c : C4) (a1 : Option Addr) (us : List (List UInt8 × C4)) (a2 : Option Addr) (gs : List (List UInt8 × G6)) : Prop where
  main : TzV w S s.main c
  nt : us.length = s.types.length
  rt : RowV w S a1 5 (us.map encZ)
  vt : ∀ i (h : i < s.types.length) (h' : i < us.length), us[i].1 = s.types[i].1 ∧ TzV w S s.types[i].2 us[i].2
  ng : gs.length = s.sigs.length
  rg : RowV w S a2 6 (gs.map encG)
  vg : ∀ i (h : i < s.sigs.length) (h' : i < gs.length), SgV w S s.sigs[i] gs[i]
theorem SzV.keep {w w' : World} {S : Nat → Prop} {s : Sz} {c : C4} {a1 a2 : Option Addr} {us : List (List UInt8 × C4)} {gs : List (List UInt8 × G6)} (h : SzV w S s c a1 us a2 gs) (hk : ∀ g, S g → w'.heap[g]? = w.heap[g]?) : SzV w' S s c a1 us a2 gs :=
  ⟨h.main.keep (fun _ h => h) hk, h.nt, h.rt.keep (fun _ h => h) hk, fun i h1 h2 => ⟨(h.vt i h1 h2).1, (h.vt i h1 h2).2.keep (fun _ h => h) hk⟩, h.ng, h.rg.keep (fun _ h => h) hk, fun i h1 h2 => (h.vg i h1 h2).keep hk⟩
theorem SzV.names {w : World} {S : Nat → Prop} {s : Sz} {c : C4} {a1 a2 : Option Addr} {us : List (List UInt8 × C4)} {gs : List (List UInt8 × G6)} (h : SzV w S s c a1 us a2 gs) : us.map (·.1) = s.types.map (·.1) := by
  apply List.ext_getElem
  · rw [List.length_map, List.length_map, h.nt]
  · intro i h1 h2
    rw [List.length_map] at h1 h2
    rw [List.getElem_map, List.getElem_map]
    exact (h.vt i h2 h1).1
theorem hasZ_names {β γ : Type} (a : List (List UInt8 × β)) (b : List (List UInt8 × γ)) (h : a.map (·.1) = b.map (·.1)) (s : List UInt8) : hasZ a s = hasZ b s := by
  have e : ∀ {δ : Type} (l : List (List UInt8 × δ)), hasZ l s = (l.map (·.1)).any fun x => decide (x = s) := by intro δ l; simp [hasZ, List.any_map, Function.comp_def]
  rw [e a, e b, h]
/-- What memory can hold of it. -/
structure SzFit (s : Sz) : Prop where
  main : fitZ s.main = true
  types : ∀ i (h : i < s.types.length), s.types[i].1.length ≤ maxLen ∧ fitZ s.types[i].2 = true
  sigs : ∀ i (h : i < s.sigs.length), fitG s.sigs[i] = true
theorem sig_at {w : World} {wb : Nat} {S : Nat → Prop} {a : Option Addr} {us : List (List UInt8 × G6)} (h : RowV w S a 6 (us.map encG)) (hS : ∀ g, S g → g < wb) (j : Nat) (hj : j < us.length) :
    ∃ g o, a = some ⟨g, o, none⟩ ∧ g < wb ∧ ∀ W : World, (∀ k, k < wb → W.heap[k]? = w.heap[k]?) → W.cell? ⟨g, o + j * 6, none⟩ = some (.string ⟨us[j].1.toArray⟩) ∧ W.cell? ⟨g, o + j * 6 + 1, none⟩ = some (.slice us[j].2.ap us[j].2.lp us[j].2.cp) ∧
      W.cell? ⟨g, o + j * 6 + 2, none⟩ = some (.int .i64 us[j].2.c.k) ∧ W.cell? ⟨g, o + j * 6 + 3, none⟩ = some (.string us[j].2.c.n) ∧
      W.cell? ⟨g, o + j * 6 + 4, none⟩ = some (.slice us[j].2.c.an us[j].2.c.ln us[j].2.c.cn) ∧ W.cell? ⟨g, o + j * 6 + 5, none⟩ = some (.slice us[j].2.c.ak us[j].2.c.lk us[j].2.c.ck) := by
  rcases h with h | ⟨g, o, ha, hg, hc⟩
  · rw [List.map_eq_nil_iff.1 h] at hj; exact absurd hj (by simp)
  · refine ⟨g, o, ha, hS g hg, fun W hW => ?_⟩
    have := fun i v hv => (World.cell?_of_block (a := ⟨g, o + j * 6 + i, none⟩) (hW g (hS g hg))).trans (hc j (by rw [List.length_map]; exact hj) i v (by rw [List.getElem_map]; exact hv))
    exact ⟨this 0 _ rfl, this 1 _ rfl, this 2 _ rfl, this 3 _ rfl, this 4 _ rfl, this 5 _ rfl⟩
theorem nam_at {w : World} {wb : Nat} {S : Nat → Prop} {a : Option Addr} {us : List (List UInt8 × C4)} (h : RowV w S a 5 (us.map encZ)) (hS : ∀ g, S g → g < wb) (j : Nat) (hj : j < us.length) :
    ∃ g o, a = some ⟨g, o, none⟩ ∧ g < wb ∧ ∀ W : World, (∀ k, k < wb → W.heap[k]? = w.heap[k]?) → W.cell? ⟨g, o + j * 5, none⟩ = some (.string ⟨us[j].1.toArray⟩) ∧ W.cell? ⟨g, o + j * 5 + 1, none⟩ = some (.int .i64 us[j].2.k) ∧ W.cell? ⟨g, o + j * 5 + 2, none⟩ = some (.string us[j].2.n) ∧
      W.cell? ⟨g, o + j * 5 + 3, none⟩ = some (.slice us[j].2.an us[j].2.ln us[j].2.cn) ∧ W.cell? ⟨g, o + j * 5 + 4, none⟩ = some (.slice us[j].2.ak us[j].2.lk us[j].2.ck) := by
  rcases h with h | ⟨g, o, ha, hg, hc⟩
  · rw [List.map_eq_nil_iff.1 h] at hj; exact absurd hj (by simp)
  · refine ⟨g, o, ha, hS g hg, fun W hW => ?_⟩
    have := fun i v hv => (World.cell?_of_block (a := ⟨g, o + j * 5 + i, none⟩) (hW g (hS g hg))).trans (hc j (by rw [List.length_map]; exact hj) i v (by rw [List.getElem_map]; exact hv))
    exact ⟨this 0 _ rfl, this 1 _ rfl, this 2 _ rfl, this 3 _ rfl, this 4 _ rfl⟩
theorem fnZ_names (h1 h2 : List UInt8 → Bool) (e : ∀ s, h1 s = h2 s) : h1 = h2 := funext e
set_option maxRecDepth 100000 in
set_option maxHeartbeats 16000000 in
theorem schema_any (cb mb : Nat) (l : List (List UInt8 × C4)) (S : Nat → Prop) (s : Sz) (c : C4) (a1 a2 : Option Addr) (us : List (List UInt8 × C4)) (gs : List (List UInt8 × G6)) (c1 c2 : Nat) (w : World)
    (hS : ∀ g, S g → g < cb) (hm : mb ≠ cb) (hf : SzFit s) (hnt : s.types.length ≤ maxLen) (hng : s.sigs.length ≤ maxLen) (hV : SzV w S s c a1 us a2 gs) (hC : CkE w cb mb 0) (hM : MapV w mb l) (hl : ∀ n, hasZ l n = hasZ s.types n) :
    Calls Try.prog 43 #[.pointer (some ⟨cb, 0, none⟩), .agg #[.int .i64 c.k, .string c.n, .slice c.an c.ln c.cn, .slice c.ak c.lk c.ck, .slice a1 s.types.length c1, .slice a2 s.sigs.length c2]] w fun e w' =>
      e = .returned (.int .i64 (schZ s)) ∧ (∃ m, CkE w' cb mb m) ∧ Only cb w w' := by
  have hcb := hC.lt
  obtain ⟨v, hv⟩ : ∃ v, v = schZ s := ⟨_, rfl⟩
  rw [← hv]
  unfold schZ at hv
  rw [← fnZ_names (hasZ l) (hasZ s.types) hl] at hv
  clear hl
  dsimp only at hv
  obtain ⟨x1, x2, x3, x4, x5, x6, x7, x8⟩ := c
  dsimp only
  obtain ⟨W0, hW0⟩ : ∃ W0, W0 = w.alloc (.cells #[.int .i64 x1, .string x2, .slice x3 x4 x5, .slice x6 x7 x8, .slice a1 s.types.length c1, .slice a2 s.sigs.length c2] 34) := ⟨_, rfl⟩
  have hs0 : W0.heap.size = w.heap.size + 1 := by rw [hW0]; simp
  have hb0 : Below w.heap.size w W0 := by rw [hW0]; exact (Below.refl _ _).alloc (Nat.le_refl _) _
  have hx0 : W0.heap[w.heap.size]? = some (.cells #[.int .i64 x1, .string x2, .slice x3 x4 x5, .slice x6 x7 x8, .slice a1 s.types.length c1, .slice a2 s.sigs.length c2] 34 (0, 0)) := by rw [hW0]; exact heap_alloc_new w _
  have hcw : cb ≠ w.heap.size := by omega
  have hsw : ∀ g, S g → g ≠ cb := fun g hg e => by have := hS g hg; omega
  have kb : ∀ W, Only cb W0 W → ∀ g, g < cb → W.heap[g]? = w.heap[g]? := fun W hB g hg => (hB.block g (by omega) (fun e => by cases e; omega)).trans (hb0.block g (by omega))
  have kV : ∀ W, Only cb W0 W → SzV W S s ⟨x1, x2, x3, x4, x5, x6, x7, x8⟩ a1 us a2 gs := fun W hB => hV.keep (fun g hg => kb W hB g (hS g hg))
  have kM : ∀ W, Only cb W0 W → MapV W mb l := fun W hB => (hM.below hb0).keep hB (fun e => hm (by cases e; rfl))
  have kx : ∀ W, Only cb W0 W → W.heap[w.heap.size]? = some (.cells #[.int .i64 x1, .string x2, .slice x3 x4 x5, .slice x6 x7 x8, .slice a1 s.types.length c1, .slice a2 s.sigs.length c2] 34 (0, 0)) := fun W hB => (hB.block _ (by omega) (fun e => hcw (by cases e; rfl))).trans hx0
  have CO := fun W (t : Tz) (ct : C4) (m : Nat) (hB : Only cb W0 W) (h4 : m ≤ 400) (hft : fitZ t = true) (ht : TzV W S t ct) (hCk : CkE W cb mb m) => oneP cb mb l S hS hm t hft 1 m W ct (by omega) h4 ht hCk (kM W hB)
  have CF := fun W (g : Sg) (x : List UInt8 × G6) (a : List UInt8) (m : Nat) (hB : Only cb W0 W) (h4 : m ≤ 400) (hfg : fitG g = true) (hg : SgV W S g x) (hCk : CkE W cb mb m) => function_any cb mb l S g x a m W hS hm hfg h4 hg hCk (kM W hB)
  have hnt2 : s.types.length ≤ 9223372036854775807 := by unfold maxLen at hnt; omega
  have hng2 : s.sigs.length ≤ 9223372036854775807 := by unfold maxLen at hng; omega
  have HV := Lib.hid hv; have HB0 := Lib.hid hb0; have HW0 := Lib.hid hW0; have HS0 := Lib.hid hs0; have HKV := Lib.hid kV; have HKX := Lib.hid kx; have HCO := Lib.hid CO; have HCF := Lib.hid CF; have HSS := Lib.hid hS; have HF := Lib.hid hf; have HKB := Lib.hid kb
  have HC0 := Lib.hid (hC.below hb0); have HNT := Lib.hid hV.nt; have HNG := Lib.hid hV.ng; have HRT := Lib.hid hV.rt; have HRG := Lib.hid hV.rg
  clear hv hb0 hW0 hs0 kV kx CO CF hS hf kb hC hV hM hm hx0 hsw kM hnt hng
  go_enter Try.func43, Try.ntmps43
  go_wp2
  rw [← HW0.out]
  go_loopw [16] (fun iv wr => ∃ j m, j ≤ s.types.length ∧ m ≤ 400 ∧ iv = .int .i64 j ∧ Hid (allZ (hasZ l) 1 0 (s.types.map (·.2)) = allZ (hasZ l) 1 m ((s.types.map (·.2)).drop j)) ∧ Hid (CkE wr cb mb m) ∧ Hid (Only cb W0 wr)) (fun iv _ => s.types.length - (intOf iv).toNat)
  case atStart => exact ⟨0, 0, Nat.zero_le _, by omega, rfl, rfl, HC0, Only.refl _ _⟩
  case round =>
    obtain ⟨j, m, hj, hm4, rfl, hq, hCk, hO⟩ := hrel
    have hws := hO.out.size
    rw [HS0.out] at hws
    by_cases hlt : j < s.types.length
    · have hlu : j < us.length := by rw [HNT.out]; exact hlt
      have hVr := HKV.out wr hO.out
      obtain ⟨g, o, rfl, hg, hc⟩ := nam_at hVr.rt HSS.out j hlu
      obtain ⟨q0, q1, q2, q3, q4⟩ := hc wr (fun _ _ => rfl)
      obtain ⟨y1, y2⟩ := hVr.vt j hlt hlu
      have hft := HF.out.types j hlt
      have hdr : (s.types.map (·.2)).drop j = s.types[j].2 :: (s.types.map (·.2)).drop (j + 1) := by rw [List.drop_eq_getElem_cons (by rw [List.length_map]; exact hlt), List.getElem_map]
      have hstep : allZ (hasZ l) 1 m ((s.types.map (·.2)).drop j) = if (oneZ (hasZ l) 1 m s.types[j].2).1 = 0 then allZ (hasZ l) 1 (oneZ (hasZ l) 1 m s.types[j].2).2 ((s.types.map (·.2)).drop (j + 1)) else oneZ (hasZ l) 1 m s.types[j].2 := by rw [hdr]; rfl
      have hq2 := hq.out
      rw [hstep] at hq2
      have HQ := Lib.hid hq2
      have hle := oneZ_le (hasZ l) s.types[j].2 1 m hm4
      have hjz : (j : Int) < (s.types.length : Int) := by omega
      clear hc hdr hstep hq2 hq y1 hVr
      generalize s.types[j] = t at *
      generalize us[j] = x at *
      obtain ⟨xn, ⟨z1, z2, z3, z4, z5, z6, z7, z8⟩⟩ := x
      dsimp only at *
      obtain ⟨W1, hW1⟩ : ∃ W1, W1 = wr.alloc (.cells #[.string ⟨xn.toArray⟩, .int .i64 z1, .string z2, .slice z3 z4 z5, .slice z6 z7 z8] 44) := ⟨_, rfl⟩
      have hBB : Below wr.heap.size wr W1 := by rw [hW1]; exact (Below.refl _ _).alloc (Nat.le_refl _) _
      have hOW := hO.out.trans (Only.of_below hBB)
      have hC1 := HCO.out W1 t.2 ⟨z1, z2, z3, z4, z5, z6, z7, z8⟩ m hOW hm4 hft.2 (y2.later (fun g hg => by have := HSS.out g hg; omega) hBB) (hCk.out.below hBB)
      unfold C4.val at hC1
      dsimp only at hC1
      have HOW := Lib.hid hOW
      have HLE := Lib.hid hle
      have HC1 := Lib.hid hC1
      clear hC1 hOW hle hBB y2 hft
      subst hW1
      generalize oneZ (hasZ l) 1 m t.2 = q at *
      obtain ⟨q1, q2⟩ := q
      dsimp only at *
      by_cases h0 : q1 = 0
      · subst h0
        rw [if_pos rfl] at HQ
        go_wp2_with (go_at_call 68; (refine HC1.out.mono ?_); rintro e w1 ⟨rfl, k1, o1⟩; have K1 := Lib.hid k1; have O1 := Lib.hid o1; clear k1 o1)
        go_roundw
        case rel => exact ⟨j + 1, q2, by omega, HLE.out (by trivial), by go_num, HQ, K1, HOW.out.trans O1.out⟩
        case measure => simp [intOf]; omega
      · rw [if_neg h0] at HQ
        have hne : (q1 : Int) ≠ 0 := by omega
        have t0 : ((q1 : Nat) == (0 : Int)) = false := by simp; omega
        go_wp2_with (go_at_call 68; (refine HC1.out.mono ?_); rintro e w1 ⟨rfl, k1, o1⟩; have K1 := Lib.hid k1; have O1 := Lib.hid o1; clear k1 o1)
        go_ret
        have hx : v = q1 := by rw [HV.out, HQ.out]; exact if_pos h0
        rw [hx]
        exact ⟨rfl, ⟨_, K1.out⟩, (Only.of_below HB0.out).trans (HOW.out.trans O1.out)⟩
    · have hjn : j = (s.types.map (·.2)).length := by rw [List.length_map]; omega
      have hz := hq.out
      rw [hjn, List.drop_length] at hz
      have hz2 : allZ (hasZ l) 1 0 (s.types.map (·.2)) = (0, m) := hz
      have hv2 := HV.out
      rw [hz2, if_neg (by simp)] at hv2
      have hVr := HKV.out wr hO.out
      have CM := HCO.out wr s.main ⟨x1, x2, x3, x4, x5, x6, x7, x8⟩ m hO.out hm4 HF.out.main hVr.main hCk.out
      unfold C4.val at CM
      dsimp only at CM
      have hle := oneZ_le (hasZ l) s.main 1 m hm4
      obtain ⟨p0, p1, p2, p3, p4, p5⟩ := six_blk (HKX.out wr hO.out)
      rw [List.length_map] at hjn
      subst hjn
      clear hz hz2 hq hVr HV
      generalize oneZ (hasZ l) 1 m s.main = q at *
      obtain ⟨q1, q2⟩ := q
      dsimp only at *
      have HCM := Lib.hid CM; have HV := Lib.hid hv2; have HLE := Lib.hid hle
      clear CM hv2 hle
      by_cases h0 : q1 = 0
      · subst h0
        have hv3 := HV.out
        rw [if_neg (by simp)] at hv3
        have HV := Lib.hid hv3
        clear hv3
        go_wp2_with (go_at_call 68; (refine HCM.out.mono ?_); rintro e w1 ⟨rfl, k1, o1⟩; have K1 := Lib.hid k1; have O1 := Lib.hid (hO.out.trans o1); clear k1 o1 p0 p1 p2 p3 p4 p5; obtain ⟨p0, p1, p2, p3, p4, p5⟩ := six_blk (HKX.out w1 O1.out))
        clear p0 p1 p2 p3 p4 p5
        obtain ⟨wo, hwo⟩ : ∃ wo, wo = wr := ⟨wr, rfl⟩
        subst hwo
        go_loopw [9, 38] (fun av iv wr => ∃ j m a, j ≤ s.sigs.length ∧ m ≤ 400 ∧ av = .string ⟨a.toArray⟩ ∧ iv = .int .i64 j ∧ Hid (fnsZ (hasZ l) q2 [] s.sigs = fnsZ (hasZ l) m a (s.sigs.drop j)) ∧ Hid (CkE wr cb mb m) ∧ Hid (Only cb W0 wr)) (fun _ iv _ => s.sigs.length - (intOf iv).toNat)
        case atStart => exact ⟨0, q2, [], Nat.zero_le _, HLE.out (by trivial), rfl, rfl, rfl, K1, O1⟩
        case round =>
          clear hCk hO
          obtain ⟨j, m, a, hj, hm4, rfl, rfl, hq, hCk, hO⟩ := hrel
          have hws := hO.out.size
          rw [HS0.out] at hws
          by_cases hlt : j < s.sigs.length
          · have hlu : j < gs.length := by rw [HNG.out]; exact hlt
            have hVr := HKV.out _ hO.out
            obtain ⟨g, o, rfl, hg, hc⟩ := sig_at hVr.rg HSS.out j hlu
            obtain ⟨q0, q1, q2, q3, q4, q5⟩ := hc _ (fun _ _ => rfl)
            have y2 := hVr.vg j hlt hlu
            have hft := HF.out.sigs j hlt
            have hdr : s.sigs.drop j = s.sigs[j] :: s.sigs.drop (j + 1) := List.drop_eq_getElem_cons hlt
            have hstep : fnsZ (hasZ l) m a (s.sigs.drop j) = if (fnZ (hasZ l) m a s.sigs[j]).1 = 0 then fnsZ (hasZ l) (fnZ (hasZ l) m a s.sigs[j]).2 s.sigs[j].name (s.sigs.drop (j + 1)) else fnZ (hasZ l) m a s.sigs[j] := by rw [hdr]; rfl
            have hq2 := hq.out
            rw [hstep] at hq2
            have HQ := Lib.hid hq2
            have hle := fnZ_le (hasZ l) s.sigs[j] a m hm4
            have hnm := y2.name
            have hjz : (j : Int) < (s.sigs.length : Int) := by omega
            clear hc hdr hstep hq2 hq hVr
            generalize s.sigs[j] = t at *
            generalize gs[j] = x at *
            obtain ⟨xn, ⟨xa, xl, xc, ⟨z1, z2, z3, z4, z5, z6, z7, z8⟩⟩⟩ := x
            dsimp only at *
            obtain ⟨W1, hW1⟩ : ∃ W1, W1 = wr.alloc (.cells #[.string ⟨xn.toArray⟩, .slice xa xl xc, .int .i64 z1, .string z2, .slice z3 z4 z5, .slice z6 z7 z8] 46) := ⟨_, rfl⟩
            have hBB : Below wr.heap.size wr W1 := by rw [hW1]; exact (Below.refl _ _).alloc (Nat.le_refl _) _
            have hOW := hO.out.trans (Only.of_below hBB)
            have hC1 := HCF.out W1 t ⟨xn, ⟨xa, xl, xc, ⟨z1, z2, z3, z4, z5, z6, z7, z8⟩⟩⟩ a m hOW hm4 hft (y2.keep (fun g hg => by have := HSS.out g hg; exact hBB.block g (by omega))) (hCk.out.below hBB)
            dsimp only at hC1
            have hx1 : W1.heap[wr.heap.size]? = some (.cells #[.string ⟨xn.toArray⟩, .slice xa xl xc, .int .i64 z1, .string z2, .slice z3 z4 z5, .slice z6 z7 z8] 46 (0, 0)) := by rw [hW1]; exact heap_alloc_new wr _
            have hl1 : wr.heap.size < W1.heap.size := by rw [hW1]; simp
            have hcw2 : cb ≠ wr.heap.size := by omega
            have HX1 := Lib.hid hx1
            have HL1 := Lib.hid hl1
            have HOW := Lib.hid hOW
            have HLE2 := Lib.hid hle
            have HC1 := Lib.hid hC1
            have HNM := Lib.hid hnm
            clear hC1 hOW hle hBB y2 hft hx1 hl1 hnm
            subst hW1
            have hnn : t.name = xn := HNM.out.symm
            rw [hnn] at HQ
            clear hnn
            generalize fnZ (hasZ l) m a t = r at *
            obtain ⟨r1, r2⟩ := r
            dsimp only at *
            by_cases h0 : r1 = 0
            · subst h0
              rw [if_pos rfl] at HQ
              go_wp2_with (go_at_call 69; (with_reducible refine HC1.out.mono ?_); rintro e w2 ⟨rfl, k2, o2⟩; obtain ⟨p0, p1, p2, p3, p4, p5⟩ := six_blk ((o2.block _ HL1.out (by simpa using fun e => hcw2 e.symm)).trans HX1.out); have K2 := Lib.hid k2; have O2 := Lib.hid o2; clear k2 o2)
              go_roundw
              case rel => exact ⟨j + 1, r2, xn, by omega, HLE2.out (by trivial), rfl, by go_num, HQ, K2, HOW.out.trans O2.out⟩
              case measure => simp [intOf]; omega
            · rw [if_neg h0] at HQ
              have hne : (r1 : Int) ≠ 0 := by omega
              have t0 : ((r1 : Nat) == (0 : Int)) = false := by simp; omega
              go_wp2_with (go_at_call 69; (with_reducible refine HC1.out.mono ?_); rintro e w2 ⟨rfl, k2, o2⟩; have K2 := Lib.hid k2; have O2 := Lib.hid o2; clear k2 o2)
              go_ret
              have hx : v = r1 := by rw [HV.out, HQ.out]
              rw [hx]
              exact ⟨rfl, ⟨_, K2.out⟩, (Only.of_below HB0.out).trans (HOW.out.trans O2.out)⟩
          · have hjn : j = s.sigs.length := by omega
            subst hjn
            have hz := hq.out
            rw [List.drop_length] at hz
            have HZ := Lib.hid (show fnsZ (hasZ l) q2 [] s.sigs = (0, m) from hz)
            clear hz hq
            go_wp2
            go_ret
            have hx : v = 0 := by rw [HV.out, HZ.out]
            rw [hx]
            exact ⟨rfl, ⟨_, hCk.out⟩, (Only.of_below HB0.out).trans hO.out⟩
      · have hne : (q1 : Int) ≠ 0 := by omega
        have t0 : ((q1 : Nat) == (0 : Int)) = false := by simp; omega
        go_wp2_with (go_at_call 68; (refine HCM.out.mono ?_); rintro e w1 ⟨rfl, k1, o1⟩; have K1 := Lib.hid k1; have O1 := Lib.hid (hO.out.trans o1); clear k1 o1 p0 p1 p2 p3 p4 p5)
        go_ret
        have hx : v = q1 := by rw [HV.out]; exact if_pos h0
        rw [hx]
        exact ⟨rfl, ⟨_, K1.out⟩, (Only.of_below HB0.out).trans O1.out⟩
end Sp
end Go.Proofs.Ytdophmlnmbcjlaa
