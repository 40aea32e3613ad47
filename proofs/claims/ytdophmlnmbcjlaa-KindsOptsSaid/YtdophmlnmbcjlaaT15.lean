/- optOfOpt: whether an Opt of an Opt stands anywhere in a schema. -/
import Derived.Test.YtdophmlnmbcjlaaT14
namespace Go.Proofs.Ytdophmlnmbcjlaa
open Go.RowKit
namespace Sp
open Sc
theorem SzV.ents {w : World} {S : Nat → Prop} {s : Sz} {c : C4} {a1 a2 : Option Addr} {us : List (List UInt8 × C4)} {gs : List (List UInt8 × G6)} (h : SzV w S s c a1 us a2 gs) : EntV w S s.types us := ⟨h.nt, h.vt⟩
set_option maxRecDepth 100000 in
set_option maxHeartbeats 16000000 in
theorem optOfOpt_any (mb : Nat) (S : Nat → Prop) (s : Sz) (c : C4) (a1 a2 : Option Addr) (us : List (List UInt8 × C4)) (gs : List (List UInt8 × G6)) (c1 c2 : Nat) (w : World)
    (hS : ∀ g, S g → g < w.heap.size) (hf : SzFit s) (hnt : s.types.length ≤ maxLen) (hng : s.sigs.length ≤ maxLen) (hV : SzV w S s c a1 us a2 gs) (hM : MapV w mb us) (ho : optOk s = true) :
    Calls Try.prog 45 #[.map (some mb), .agg #[.int .i64 c.k, .string c.n, .slice c.an c.ln c.cn, .slice c.ak c.lk c.ck, .slice a1 s.types.length c1, .slice a2 s.sigs.length c2]] w fun e w' =>
      e = .returned (.bool (optOf s)) ∧ Below w.heap.size w w' := by
  obtain ⟨v, hv⟩ : ∃ v, v = optOf s := ⟨_, rfl⟩
  rw [← hv]
  unfold optOf at hv
  unfold optOk at ho
  simp only [Bool.and_eq_true, List.all_eq_true] at ho
  obtain ⟨⟨o1, o2⟩, o3⟩ := ho
  have hfl : fitL s.types := fun i h => (hf.types i h).2
  obtain ⟨x1, x2, x3, x4, x5, x6, x7, x8⟩ := c
  dsimp only
  obtain ⟨W0, hW0⟩ : ∃ W0, W0 = w.alloc (.cells #[.int .i64 x1, .string x2, .slice x3 x4 x5, .slice x6 x7 x8, .slice a1 s.types.length c1, .slice a2 s.sigs.length c2] 34) := ⟨_, rfl⟩
  have hs0 : W0.heap.size = w.heap.size + 1 := by rw [hW0]; simp
  have hb0 : Below w.heap.size w W0 := by rw [hW0]; exact (Below.refl _ _).alloc (Nat.le_refl _) _
  have hx0 : W0.heap[w.heap.size]? = some (.cells #[.int .i64 x1, .string x2, .slice x3 x4 x5, .slice x6 x7 x8, .slice a1 s.types.length c1, .slice a2 s.sigs.length c2] 34 (0, 0)) := by rw [hW0]; exact heap_alloc_new w _
  have kb : ∀ W, Below W0.heap.size W0 W → ∀ g, S g → W.heap[g]? = w.heap[g]? := fun W hB g hg => (hB.block g (by have := hS g hg; omega)).trans (hb0.block g (hS g hg))
  have kS : ∀ W, Below W0.heap.size W0 W → ∀ g, S g → g < W.heap.size := fun W hB g hg => by have h1 := hS g hg; have h2 := hB.size; omega
  have kV : ∀ W, Below W0.heap.size W0 W → SzV W S s ⟨x1, x2, x3, x4, x5, x6, x7, x8⟩ a1 us a2 gs := fun W hB => hV.keep (kb W hB)
  have kx : ∀ W, Below W0.heap.size W0 W → W.heap[w.heap.size]? = some (.cells #[.int .i64 x1, .string x2, .slice x3 x4 x5, .slice x6 x7 x8, .slice a1 s.types.length c1, .slice a2 s.sigs.length c2] 34 (0, 0)) := fun W hB => (hB.block _ (by omega)).trans hx0
  have kM : ∀ W, Below W0.heap.size W0 W → MapV W mb us := fun W hB => (hM.below hb0).below hB
  have CN := fun W (t : Tz) (ct : C4) (hB : Below W0.heap.size W0 W) (hft : fitZ t = true) (hop : opensZ s.types t = true) (ht : TzV W S t ct) => nestP mb s.types us S hfl t hft hop W ct (kS W hB) (kV W hB).ents ht (kM W hB)
  have CC := fun W (ks : List Tz) (vs : List C4) (ak : Option Addr) (ck : Nat) (hB : Below W0.heap.size W0 W) (hl : vs.length = ks.length) (hkl : ks.length ≤ maxLen) (hft : fitZs ks = true) (hop : opensZs s.types ks = true) (hk : RowV W S ak 4 (vs.map C4.cells)) (hu : ∀ i (h : i < ks.length) (h' : i < vs.length), TzV W S ks[i] vs[i]) =>
    contains_any mb s.types us S ks vs ak ck W (kS W hB) (kV W hB).ents (kM W hB) hl hkl hk hu (fun i h => nestP mb s.types us S hfl ks[i] (fitZs_mem ks hft i h) (opensZs_mem s.types ks hop i h))
  have hmf : ∀ (fn : Fn) (first cap : Array Value) (w : World), (Instr.makeFunc fn first cap).run Try.prog w = .ok (.func fn first cap) w := fun _ _ _ _ => rfl
  have hnt2 : s.types.length ≤ 9223372036854775807 := by unfold maxLen at hnt; omega
  have hng2 : s.sigs.length ≤ 9223372036854775807 := by unfold maxLen at hng; omega
  have HV := Lib.hid hv; have HB0 := Lib.hid hb0; have HW0 := Lib.hid hW0; have HS0 := Lib.hid hs0; have HKV := Lib.hid kV; have HKX := Lib.hid kx; have HCN := Lib.hid CN; have HCC := Lib.hid CC; have HKS := Lib.hid kS; have HF := Lib.hid hf; have HO1 := Lib.hid o1; have HO2 := Lib.hid o2; have HO3 := Lib.hid o3; have HSS := Lib.hid hS
  have HNT := Lib.hid hV.nt; have HNG := Lib.hid hV.ng
  clear hv hb0 hW0 hs0 kV kx CN CC kS hf kb hV hM hx0 kM hnt hng hS o1 o2 o3 hfl
  go_enter Try.func45, Try.ntmps45
  go_wp2
  rw [← HW0.out]
  go_loopw [12] (fun iv wr => ∃ j, j ≤ s.types.length ∧ iv = .int .i64 j ∧ Hid (∀ i (h : i < s.types.length), i < j → nestZ s.types s.types[i].2 = false) ∧ Hid (Below W0.heap.size W0 wr)) (fun iv _ => s.types.length - (intOf iv).toNat)
  case atStart => exact ⟨0, Nat.zero_le _, rfl, (fun i _ h => absurd h (Nat.not_lt_zero _)), Below.refl _ _⟩
  case round =>
    obtain ⟨j, hj, rfl, hq, hB⟩ := hrel
    have hws := hB.out.size
    have hS0 := HS0.out
    by_cases hlt : j < s.types.length
    · have hlu : j < us.length := by rw [HNT.out]; exact hlt
      have hVr := HKV.out wr hB.out
      obtain ⟨g, o, rfl, hg, hc⟩ := nam_at hVr.rt HSS.out j hlu
      obtain ⟨q0, q1, q2, q3, q4⟩ := hc wr (fun _ _ => rfl)
      obtain ⟨y1, y2⟩ := hVr.vt j hlt hlu
      have hjz : (j : Int) < (s.types.length : Int) := by omega
      have hop := opensZs_mem s.types (s.types.map (·.2)) HO1.out j (by rw [List.length_map]; exact hlt)
      rw [List.getElem_map] at hop
      have hfz := (HF.out.types j hlt).2
      have hz : nestZ s.types s.types[j].2 = false → ∀ i (h : i < s.types.length), i < j + 1 → nestZ s.types s.types[i].2 = false := fun h0 i hi hij => by
        by_cases e : i = j
        · subst e; exact h0
        · exact hq.out i hi (by omega)
      have ha : nestZ s.types s.types[j].2 = true → nestsZ s.types (s.types.map (·.2)) = true := fun h => by
        rw [nestsZ_any, List.any_eq_true]
        exact ⟨s.types[j].2, List.mem_map_of_mem (List.getElem_mem hlt), h⟩
      have HZ := Lib.hid hz; have HA := Lib.hid ha
      clear hc hz ha y1 hVr hq
      generalize hxx : us[j] = x at *
      obtain ⟨xn, ⟨z1, z2, z3, z4, z5, z6, z7, z8⟩⟩ := x
      dsimp only at *
      obtain ⟨W1, hW1⟩ : ∃ W1, W1 = wr.alloc (.cells #[.string ⟨xn.toArray⟩, .int .i64 z1, .string z2, .slice z3 z4 z5, .slice z6 z7 z8] 44) := ⟨_, rfl⟩
      have hBB : Below wr.heap.size wr W1 := by rw [hW1]; exact (Below.refl _ _).alloc (Nat.le_refl _) _
      have hBW : Below W0.heap.size W0 W1 := hB.out.trans (hBB.mono hws)
      have C := HCN.out W1 s.types[j].2 ⟨z1, z2, z3, z4, z5, z6, z7, z8⟩ hBW hfz hop (y2.later (fun g hg => by have := HSS.out g hg; omega) hBB)
      dsimp only at C
      have HC := Lib.hid C; have HBW := Lib.hid hBW
      clear C hBW hBB y2 hop hfz hxx
      subst hW1
      generalize nestZ s.types s.types[j].2 = q at *
      cases q
      · go_wp2_with (go_at_call 71; (refine HC.out.mono ?_); rintro e w1 ⟨rfl, b1⟩; have HB1 := Lib.hid b1; clear b1)
        go_roundw
        case rel => exact ⟨j + 1, by omega, by go_num, HZ.out (by trivial), HBW.out.trans (HB1.out.mono HBW.out.size)⟩
        case measure => simp [intOf]; omega
      · go_wp2_with (go_at_call 71; (refine HC.out.mono ?_); rintro e w1 ⟨rfl, b1⟩; have HB1 := Lib.hid b1; clear b1)
        go_ret
        have hx : v = true := by rw [HV.out, HA.out (by trivial)]; rfl
        rw [hx]
        exact ⟨rfl, HB0.out.trans ((HBW.out.trans (HB1.out.mono HBW.out.size)).mono (by omega))⟩
    · have hjn : j = s.types.length := by omega
      subst hjn
      have hz : nestsZ s.types (s.types.map (·.2)) = false := by
        rw [nestsZ_any, List.any_eq_false]
        intro x hx
        obtain ⟨y, hy, rfl⟩ := List.mem_map.1 hx
        obtain ⟨i, hi, rfl⟩ := List.getElem_of_mem hy
        rw [hq.out i hi hi]
        decide
      have hv2 := HV.out
      rw [hz, Bool.false_or] at hv2
      have HV := Lib.hid hv2
      obtain ⟨p0, p1, p2, p3, p4, p5⟩ := six_blk (HKX.out wr hB.out)
      clear hz hq hv2
      go_wp2
      clear p0 p1 p2 p3 p4 p5
      obtain ⟨wo, hwo⟩ : ∃ wo, wo = wr := ⟨wr, rfl⟩
      subst hwo
      go_loopw [24] (fun iv wr => ∃ j, j ≤ s.sigs.length ∧ iv = .int .i64 j ∧ Hid (∀ i (h : i < s.sigs.length), i < j → (nestZ s.types s.sigs[i].result || nestsZ s.types s.sigs[i].params) = false) ∧ Hid (Below W0.heap.size W0 wr)) (fun iv _ => s.sigs.length - (intOf iv).toNat)
      case atStart => exact ⟨0, Nat.zero_le _, rfl, (fun i _ h => absurd h (Nat.not_lt_zero _)), hB⟩
      case round =>
        clear hB
        obtain ⟨j, hj, rfl, hq, hB⟩ := hrel
        have hws := hB.out.size
        by_cases hlt : j < s.sigs.length
        · have hlu : j < gs.length := by rw [HNG.out]; exact hlt
          have hVr := HKV.out wr hB.out
          obtain ⟨g, o, rfl, hg, hc⟩ := sig_at hVr.rg HSS.out j hlu
          obtain ⟨q0, q1, q2, q3, q4, q5⟩ := hc wr (fun _ _ => rfl)
          obtain ⟨y1, y2, ⟨ps, y3, y4, y5⟩, y6⟩ := hVr.vg j hlt hlu
          have hjz : (j : Int) < (s.sigs.length : Int) := by omega
          have hop := HO2.out s.sigs[j] (List.getElem_mem hlt)
          have hfz := HF.out.sigs j hlt
          unfold fitG at hfz
          simp only [Bool.and_eq_true, decide_eq_true_eq] at hfz
          have hz : (nestZ s.types s.sigs[j].result || nestsZ s.types s.sigs[j].params) = false → ∀ i (h : i < s.sigs.length), i < j + 1 → (nestZ s.types s.sigs[i].result || nestsZ s.types s.sigs[i].params) = false := fun h0 i hi hij => by
            by_cases e : i = j
            · subst e; exact h0
            · exact hq.out i hi (by omega)
          have ha : (nestZ s.types s.sigs[j].result || nestsZ s.types s.sigs[j].params) = true → (s.sigs.any fun g => nestZ s.types g.result || nestsZ s.types g.params) = true := fun h => by
            rw [List.any_eq_true]
            exact ⟨s.sigs[j], List.getElem_mem hlt, h⟩
          have HZ := Lib.hid hz; have HA := Lib.hid ha
          clear hc hz ha y1 hVr hq
          generalize hxx : gs[j] = x at *
          obtain ⟨xn, ⟨xa, xl, xc, ⟨z1, z2, z3, z4, z5, z6, z7, z8⟩⟩⟩ := x
          dsimp only at *
          subst y2
          obtain ⟨W1, hW1⟩ : ∃ W1, W1 = wr.alloc (.cells #[.string ⟨xn.toArray⟩, .slice xa s.sigs[j].params.length xc, .int .i64 z1, .string z2, .slice z3 z4 z5, .slice z6 z7 z8] 46) := ⟨_, rfl⟩
          have hBB : Below wr.heap.size wr W1 := by rw [hW1]; exact (Below.refl _ _).alloc (Nat.le_refl _) _
          have hX1 : W1.heap[wr.heap.size]? = some (.cells #[.string ⟨xn.toArray⟩, .slice xa s.sigs[j].params.length xc, .int .i64 z1, .string z2, .slice z3 z4 z5, .slice z6 z7 z8] 46 (0, 0)) := by rw [hW1]; exact heap_alloc_new wr _
          have hl1 : wr.heap.size < W1.heap.size := by rw [hW1]; simp
          have hBW : Below W0.heap.size W0 W1 := hB.out.trans (hBB.mono hws)
          have kl : ∀ W, Below W1.heap.size W1 W → ∀ g, S g → W.heap[g]? = wr.heap[g]? := fun W hW g hg => (hW.block g (by have := HSS.out g hg; omega)).trans (hBB.block g (by have := HSS.out g hg; omega))
          have C1 := HCN.out W1 s.sigs[j].result ⟨z1, z2, z3, z4, z5, z6, z7, z8⟩ hBW hfz.2 hop.1 (y6.keep (fun _ h => h) (kl W1 (Below.refl _ _)))
          have C2 := fun W (hW : Below W1.heap.size W1 W) => HCC.out W s.sigs[j].params ps xa xc (hBW.trans (hW.mono hBW.size)) y3 hfz.1.1.2 hfz.1.2 hop.2 (y4.keep (fun _ h => h) (kl W hW)) (fun i h h' => (y5 i h h').keep (fun _ h => h) (kl W hW))
          have hpl : s.sigs[j].params.length ≤ 9223372036854775807 := by have := hfz.1.1.2; unfold maxLen at this; exact this
          dsimp only at C1
          have HC1 := Lib.hid C1; have HC2 := Lib.hid C2; have HBW := Lib.hid hBW; have HX1 := Lib.hid hX1; have HL1 := Lib.hid hl1
          clear C1 C2 hBW hBB y6 y3 y4 y5 hop hfz hxx kl hX1 hl1
          subst hW1
          generalize s.sigs[j].params = pl at *
          generalize nestZ s.types s.sigs[j].result = q1 at *
          generalize nestsZ s.types pl = q2 at *
          cases q1
          · cases q2
            · go_wp2_with (first
                | (go_at_call 71; (refine HC1.out.mono ?_); rintro e w1 ⟨rfl, b1⟩; have HB1 := Lib.hid b1; obtain ⟨p0, p1, p2, p3, p4, p5⟩ := six_blk ((b1.block _ HL1.out).trans HX1.out); clear b1)
                | (go_at_call 72; (refine (HC2.out _ HB1.out).mono ?_); rintro e w2 ⟨rfl, b2⟩; have HB2 := Lib.hid (HB1.out.trans (b2.mono HB1.out.size)); clear b2))
              go_roundw
              case rel => exact ⟨j + 1, by omega, by go_num, HZ.out (by trivial), HBW.out.trans (HB2.out.mono HBW.out.size)⟩
              case measure => simp [intOf]; omega
            · go_wp2_with (first
                | (go_at_call 71; (refine HC1.out.mono ?_); rintro e w1 ⟨rfl, b1⟩; have HB1 := Lib.hid b1; obtain ⟨p0, p1, p2, p3, p4, p5⟩ := six_blk ((b1.block _ HL1.out).trans HX1.out); clear b1)
                | (go_at_call 72; (refine (HC2.out _ HB1.out).mono ?_); rintro e w2 ⟨rfl, b2⟩; have HB2 := Lib.hid (HB1.out.trans (b2.mono HB1.out.size)); clear b2))
              go_ret
              have hx : v = true := by rw [HV.out, HA.out (by trivial)]; rfl
              rw [hx]
              exact ⟨rfl, HB0.out.trans ((HBW.out.trans (HB2.out.mono HBW.out.size)).mono (by omega))⟩
          · go_wp2_with (go_at_call 71; (refine HC1.out.mono ?_); rintro e w1 ⟨rfl, b1⟩; have HB1 := Lib.hid b1; obtain ⟨p0, p1, p2, p3, p4, p5⟩ := six_blk ((b1.block _ HL1.out).trans HX1.out); clear b1)
            go_ret
            have hx : v = true := by rw [HV.out, HA.out (by trivial)]; rfl
            rw [hx]
            exact ⟨rfl, HB0.out.trans ((HBW.out.trans (HB1.out.mono HBW.out.size)).mono (by omega))⟩
        · have hjn : j = s.sigs.length := by omega
          subst hjn
          have hz : (s.sigs.any fun g => nestZ s.types g.result || nestsZ s.types g.params) = false := by
            rw [List.any_eq_false]
            intro x hx
            obtain ⟨i, hi, rfl⟩ := List.getElem_of_mem hx
            rw [hq.out i hi hi]
            decide
          have hv2 := HV.out
          rw [hz, Bool.false_or] at hv2
          have HV := Lib.hid hv2
          have hVr := HKV.out wr hB.out
          have C := HCN.out wr s.main ⟨x1, x2, x3, x4, x5, x6, x7, x8⟩ hB.out HF.out.main HO3.out hVr.main
          dsimp only at C
          have HC := Lib.hid C
          obtain ⟨p0, p1, p2, p3, p4, p5⟩ := six_blk (HKX.out wr hB.out)
          clear hz hq hv2 C hVr
          go_wp2_with (go_at_call 71; (refine HC.out.mono ?_); rintro e w1 ⟨rfl, b1⟩; have HB1 := Lib.hid b1; clear b1)
          go_ret
          rw [HV.out]
          exact ⟨rfl, HB0.out.trans ((hB.out.trans (HB1.out.mono hws)).mono (by omega))⟩
end Sp
end Go.Proofs.Ytdophmlnmbcjlaa
