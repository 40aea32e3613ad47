/- slices.ContainsFunc with nested. -/
import Derived.Test.YteooafgdmpbjeabV12
namespace Go.Proofs.Yteooafgdmpbjeab
open Go.RowKit
namespace Sp
open Sc
def NestP (mb : Nat) (l : List NT) (us : List (List UInt8 × C4)) (S : Nat → Prop) (t : Tz) : Prop :=
  ∀ (w : World) (c : C4), (∀ g, S g → g < w.heap.size) → EntV w S l us → TzV w S t c → MapV w mb us →
    Calls Try.prog 65 #[.map (some mb), .agg #[.int .i64 c.k, .string c.n, .slice c.an c.ln c.cn, .slice c.ak c.lk c.ck]] w fun e w' => e = .returned (.bool (nestZ l t)) ∧ Below w.heap.size w w'
set_option maxRecDepth 100000 in
set_option maxHeartbeats 8000000 in
theorem index_any (mb : Nat) (l : List NT) (us : List (List UInt8 × C4)) (S : Nat → Prop) (ks : List Tz) (vs : List C4) (ak : Option Addr) (ck : Nat) (w : World) (hS : ∀ g, S g → g < w.heap.size) (hE : EntV w S l us) (hM : MapV w mb us)
    (hlen : vs.length = ks.length) (hkl : ks.length ≤ maxLen) (hk : RowV w S ak 4 (vs.map C4.cells)) (hu : ∀ i (h : i < ks.length) (h' : i < vs.length), TzV w S ks[i] vs[i]) (IH : ∀ i (h : i < ks.length), NestP mb l us S ks[i]) :
    Calls Try.prog 84 #[.slice ak ks.length ck, .func (.func 65) #[.map (some mb)] #[]] w fun e w' => ∃ r : Int, e = .returned (.int .i64 r) ∧ decide (0 ≤ r) = nestsZ l ks ∧ Below w.heap.size w w' := by
  unfold maxLen at hkl
  have HS := Lib.hid hS; have HE := Lib.hid hE; have HM := Lib.hid hM; have HK := Lib.hid hk; have HU := Lib.hid hu; have HI := Lib.hid IH
  clear hS hE hM hk hu IH
  go_enter Try.func84, Try.ntmps84
  go_wp2
  go_loopw [8] (fun iv wr => ∃ j, j ≤ ks.length ∧ iv = .int .i64 j ∧ Hid (∀ i (h : i < ks.length), i < j → nestZ l ks[i] = false) ∧ Hid (Below w.heap.size w wr)) (fun iv _ => ks.length - (intOf iv).toNat)
  case atStart => exact ⟨0, Nat.zero_le _, rfl, (fun i _ h => absurd h (Nat.not_lt_zero _)), Below.refl _ _⟩
  case round =>
    obtain ⟨j, hj, rfl, hq, hB⟩ := hrel
    have hws := hB.out.size
    by_cases hlt : j < ks.length
    · have hlu : j < vs.length := by omega
      obtain ⟨g, o, rfl, hg, hc⟩ := four_at HK.out HS.out j hlu
      obtain ⟨c0, c1, c2, c3⟩ := hc wr (fun k hk => hB.out.block k hk)
      have kb : ∀ g, S g → wr.heap[g]? = w.heap[g]? := fun g hg => hB.out.block g (HS.out g hg)
      have C := HI.out j hlt wr vs[j] (fun g hg => Nat.lt_of_lt_of_le (HS.out g hg) hws) (HE.out.keep kb) ((HU.out j hlt hlu).keep (fun _ h => h) kb) (HM.out.below hB.out)
      have hjz : (j : Int) < (ks.length : Int) := by omega
      have hz : nestZ l ks[j] = false → ∀ i (h : i < ks.length), i < j + 1 → nestZ l ks[i] = false := fun h0 i hi hij => by
        by_cases e : i = j
        · subst e; exact h0
        · exact hq.out i hi (by omega)
      have ha : nestZ l ks[j] = true → nestsZ l ks = true := fun h => by
        rw [nestsZ_any, List.any_eq_true]
        exact ⟨ks[j], List.getElem_mem hlt, h⟩
      have HC := Lib.hid C; have HZ := Lib.hid hz; have HA := Lib.hid ha
      clear hc kb C hz ha
      generalize nestZ l ks[j] = q at *
      generalize vs[j] = x at *
      obtain ⟨x1, x2, x3, x4, x5, x6, x7, x8⟩ := x
      dsimp only at *
      cases q
      · go_wp2_with (go_at_call 65; (refine HC.out.mono ?_); rintro e w1 ⟨rfl, b1⟩; have HB1 := Lib.hid b1; clear b1)
        go_roundw
        case rel => exact ⟨j + 1, by omega, by go_num, HZ.out (by trivial), hB.out.trans (HB1.out.mono hws)⟩
        case measure => simp [intOf]; omega
      · go_wp2_with (go_at_call 65; (refine HC.out.mono ?_); rintro e w1 ⟨rfl, b1⟩; have HB1 := Lib.hid b1; clear b1)
        go_ret
        exact ⟨j, rfl, by rw [HA.out (by trivial)]; simp, hB.out.trans (HB1.out.mono hws)⟩
    · have hjn : j = ks.length := by omega
      subst hjn
      have hz : nestsZ l ks = false := by
        rw [nestsZ_any, List.any_eq_false]
        intro x hx
        obtain ⟨i, hi, rfl⟩ := List.getElem_of_mem hx
        rw [hq.out i hi hi]
        decide
      have HZ := Lib.hid hz
      clear hz
      go_wp2
      go_ret
      exact ⟨-1, rfl, by rw [HZ.out]; decide, hB.out⟩
set_option maxRecDepth 100000 in
set_option maxHeartbeats 4000000 in
theorem contains_any (mb : Nat) (l : List NT) (us : List (List UInt8 × C4)) (S : Nat → Prop) (ks : List Tz) (vs : List C4) (ak : Option Addr) (ck : Nat) (w : World) (hS : ∀ g, S g → g < w.heap.size) (hE : EntV w S l us) (hM : MapV w mb us)
    (hlen : vs.length = ks.length) (hkl : ks.length ≤ maxLen) (hk : RowV w S ak 4 (vs.map C4.cells)) (hu : ∀ i (h : i < ks.length) (h' : i < vs.length), TzV w S ks[i] vs[i]) (IH : ∀ i (h : i < ks.length), NestP mb l us S ks[i]) :
    Calls Try.prog 66 #[.slice ak ks.length ck, .func (.func 65) #[.map (some mb)] #[]] w fun e w' => e = .returned (.bool (nestsZ l ks)) ∧ Below w.heap.size w w' := by
  have C := index_any mb l us S ks vs ak ck w hS hE hM hlen hkl hk hu IH
  have HC := Lib.hid C
  clear C hS hE hM hk hu IH
  go_enter Try.func66, Try.ntmps66
  go_wp2_with (go_at_call 84; (refine HC.out.mono ?_); rintro e w1 ⟨r, rfl, hr, b1⟩; have HR := Lib.hid hr; have HB1 := Lib.hid b1; clear hr b1)
  go_ret
  exact ⟨by rw [← HR.out]; rfl, HB1.out⟩
end Sp
end Go.Proofs.Yteooafgdmpbjeab
namespace Go.Proofs.Yteooafgdmpbjeab
open Go.RowKit
namespace Sp
open Sc
set_option maxRecDepth 100000 in
set_option maxHeartbeats 8000000 in
theorem nested_any (mb : Nat) (l : List NT) (us : List (List UInt8 × C4)) (S : Nat → Prop) (k : Int) (nm : List UInt8) (ns : List (List UInt8)) (ks : List Tz) (hf : fitZ (.mk k nm ns ks) = true) (hfl : fitL l) (ho : opensZ l (.mk k nm ns ks) = true)
    (IH : ∀ i (h : i < ks.length), NestP mb l us S ks[i]) : NestP mb l us S (.mk k nm ns ks) := by
  intro w c hS hE hV hM
  obtain ⟨f1, f2, f3, f4, f5⟩ := fitZ_mk hf
  cases hV with
  | mk _ _ _ _ an cn ak ck vs hl hnr hkr hu =>
  dsimp only
  obtain ⟨v, hv⟩ : ∃ v, v = nestZ l (.mk k nm ns ks) := ⟨_, rfl⟩
  rw [← hv]
  unfold nestZ at hv
  unfold opensZ at ho
  obtain ⟨W0, hW0⟩ : ∃ W0, W0 = w.alloc (.cells #[.int .i64 k, .string ⟨nm.toArray⟩, .slice an ns.length cn, .slice ak ks.length ck] 31) := ⟨_, rfl⟩
  have hs0 : W0.heap.size = w.heap.size + 1 := by rw [hW0]; simp
  have hb0 : Below w.heap.size w W0 := by rw [hW0]; exact (Below.refl _ _).alloc (Nat.le_refl _) _
  have hx0 : W0.heap[w.heap.size]? = some (.cells #[.int .i64 k, .string ⟨nm.toArray⟩, .slice an ns.length cn, .slice ak ks.length ck] 31 (0, 0)) := by rw [hW0]; exact heap_alloc_new w _
  have kb : ∀ W, Below W0.heap.size W0 W → ∀ g, S g → W.heap[g]? = w.heap[g]? := fun W hB g hg => (hB.block g (by have := hS g hg; omega)).trans (hb0.block g (hS g hg))
  have kS : ∀ W, Below W0.heap.size W0 W → ∀ g, S g → g < W.heap.size := fun W hB g hg => by have h1 := hS g hg; have h2 := hB.size; omega
  have CC := fun W (hB : Below W0.heap.size W0 W) => contains_any mb l us S ks vs ak ck W (kS W hB) (hE.keep (kb W hB)) ((hM.below hb0).below hB) hl f4 (hkr.keep (fun _ h => h) (kb W hB)) (fun i h h' => (hu i h h').keep (fun _ h => h) (kb W hB)) IH
  have hmf : ∀ (fn : Fn) (first cap : Array Value) (w : World), (Instr.makeFunc fn first cap).run Try.prog w = .ok (.func fn first cap) w := fun _ _ _ _ => rfl
  have hks : ks.length ≤ 9223372036854775807 := by unfold maxLen at f4; exact f4
  have HCC := Lib.hid CC; have HX0 := Lib.hid hx0; have HB0 := Lib.hid hb0; have HS0 := Lib.hid hs0; have HW0 := Lib.hid hW0; have HV := Lib.hid hv
  by_cases h6 : k = 6
  · subst h6
    simp only [decide_true, Bool.not_true, Bool.false_or, Bool.and_eq_true, decide_eq_true_eq, Bool.not_eq_true', decide_eq_false_iff_not] at ho
    obtain ⟨⟨hpos, hop⟩, _⟩ := ho
    have hlu : 0 < vs.length := by omega
    obtain ⟨g, o, rfl, hg, hc⟩ := four_at hkr hS 0 hlu
    obtain ⟨c0, c1, c2, c3⟩ := hc W0 (fun k hk => hb0.block k hk)
    have hk0 : kid0 ks = ks[0] := by unfold kid0; cases ks with | nil => exact absurd hpos (by simp) | cons a b => rfl
    rw [hk0] at hop
    have CO := open_any mb l us S 13 ks[0] vs[0] W0 (kS W0 (Below.refl _ _)) (hE.keep (kb W0 (Below.refl _ _))) ((hu 0 hpos hlu).keep (fun _ h => h) (kb W0 (Below.refl _ _))) (hM.below hb0) hop (fitZs_mem ks f5 0 hpos) hfl
    have hpz : (0 : Int) < (ks.length : Int) := by omega
    have hfld : ∀ (d1 : Int) (d2 : ByteArray) (d3 : Option Addr) (d4 d5 : Nat) (d6 : Option Addr) (d7 d8 : Nat) (w : World), (Instr.field 31 (.agg #[.int .i64 d1, .string d2, .slice d3 d4 d5, .slice d6 d7 d8]) 0).run Try.prog w = .ok (.int .i64 d1) w := fun _ _ _ _ _ _ _ _ _ => by kernel_rfl
    have HCO := Lib.hid CO; have HK0 := Lib.hid hk0
    clear hc hS hE hM hnr hkr hu IH f1 f2 f3 f4 f5 hf hfl kb kS CC CO hx0 hb0 hs0 hop hv hk0
    rw [HW0.out] at c0 c1 c2 c3
    simp only [Nat.zero_mul, Nat.add_zero] at c0 c1 c2 c3
    clear hW0
    generalize hok : (openZ l 13 ks[0]).kind = ok at *
    generalize vs[0] = x at *
    obtain ⟨x1, x2, x3, x4, x5, x6, x7, x8⟩ := x
    dsimp only at *
    by_cases hk6 : ok = 6
    · have hx : v = true := by rw [HV.out, HK0.out, hok, hk6]; rfl
      subst hk6
      go_enter Try.func65, Try.ntmps65
      rw [hx]
      clear hx hok HV HK0 hmf HCC HX0
      go_wp2_with fail
      rw [← HW0.out]
      go_wp2_with (go_at_call 83; (refine HCO.out.mono ?_); rintro e w1 ⟨⟨y1, y2, y3, y4, y5, y6, y7, y8⟩, rfl, hy, b1⟩; dsimp only at hy; subst hy; have HB1 := Lib.hid b1; clear b1)
      go_ret
      exact ⟨rfl, HB0.out.trans (HB1.out.mono (by rw [HS0.out]; omega))⟩
    · have hx : v = nestsZ l ks := by rw [HV.out, HK0.out, hok, decide_eq_false hk6, Bool.and_false, Bool.false_or]
      have t6 : (ok == 6) = false := by simpa using hk6
      go_enter Try.func65, Try.ntmps65
      rw [hx]
      clear hx hok hk6 HV HK0
      go_wp2_with fail
      rw [← HW0.out]
      go_wp2_with (first
        | (go_at_call 83; (refine HCO.out.mono ?_); rintro e w1 ⟨⟨y1, y2, y3, y4, y5, y6, y7, y8⟩, rfl, hy, b1⟩; dsimp only at hy; subst hy; have HB1 := Lib.hid b1; obtain ⟨⟨p0, p1, p2, p3⟩, _⟩ := four_blk ((b1.block w.heap.size (by rw [HS0.out]; omega)).trans HX0.out); clear b1)
        | (go_at_call 66; (refine (HCC.out _ HB1.out).mono ?_); rintro e w2 ⟨rfl, b2⟩; have HB2 := Lib.hid (HB1.out.trans (b2.mono HB1.out.size)); clear b2))
      go_ret
      exact ⟨rfl, HB0.out.trans (HB2.out.mono (by rw [HS0.out]; omega))⟩
  · have hx : v = nestsZ l ks := by rw [HV.out, decide_eq_false h6, Bool.false_and, Bool.false_or]
    have t6 : (k == 6) = false := by simpa using h6
    have HB1 := Lib.hid (Below.refl W0.heap.size W0)
    clear hS hE hM hnr hkr hu IH f1 f2 f3 f4 f5 hf hfl kb kS CC hx0 hb0 hs0 hv hW0 ho h6
    go_enter Try.func65, Try.ntmps65
    rw [hx]
    clear hx HV
    go_wp2_with fail
    rw [← HW0.out]
    go_wp2_with (go_at_call 66; (refine (HCC.out _ HB1.out).mono ?_); rintro e w2 ⟨rfl, b2⟩; have HB2 := Lib.hid b2; clear b2)
    go_ret
    exact ⟨rfl, HB0.out.trans (HB2.out.mono (by rw [HS0.out]; omega))⟩
theorem nestP_all (mb : Nat) (l : List NT) (us : List (List UInt8 × C4)) (S : Nat → Prop) (hfl : fitL l) : ∀ (N : Nat) (t : Tz), sizeZ t ≤ N → fitZ t = true → opensZ l t = true → NestP mb l us S t
  | 0, t, h, _, _ => absurd (sizeZ_pos t) (by omega)
  | N + 1, .mk k nm ns ks, h, hf, ho => nested_any mb l us S k nm ns ks hf hfl ho (fun i hi =>
      nestP_all mb l us S hfl N ks[i] (by have := sizeZ_mem ks i hi; rw [sizeZ] at h; omega) (fitZs_mem ks (fitZ_mk hf).2.2.2.2 i hi) (by
        unfold opensZ at ho
        rw [Bool.and_eq_true] at ho
        exact opensZs_mem l ks ho.2 i hi))
theorem nestP (mb : Nat) (l : List NT) (us : List (List UInt8 × C4)) (S : Nat → Prop) (hfl : fitL l) (t : Tz) (hf : fitZ t = true) (ho : opensZ l t = true) : NestP mb l us S t := nestP_all mb l us S hfl _ t (Nat.le_refl _) hf ho
end Sp
end Go.Proofs.Yteooafgdmpbjeab
namespace Go.Proofs.Yteooafgdmpbjeab
open Go.RowKit
namespace Sp
open Sc
theorem SzV.ents {w : World} {S : Nat → Prop} {s : Sz} {c : C4} {a1 a2 : Option Addr} {us : List (List UInt8 × C4)} {gs : List (List UInt8 × G6)} (h : SzV w S s c a1 us a2 gs) : EntV w S s.types us := ⟨h.nt, h.vt⟩
set_option maxRecDepth 100000 in
set_option maxHeartbeats 16000000 in
theorem optOfOpt_any (mb : Nat) (S : Nat → Prop) (s : Sz) (c : C4) (a1 a2 : Option Addr) (us : List (List UInt8 × C4)) (gs : List (List UInt8 × G6)) (c1 c2 : Nat) (w : World)
    (hS : ∀ g, S g → g < w.heap.size) (hf : SzFit s) (hnt : s.types.length ≤ maxLen) (hng : s.sigs.length ≤ maxLen) (hV : SzV w S s c a1 us a2 gs) (hM : MapV w mb us) (ho : optOk s = true) :
    Calls Try.prog 44 #[.map (some mb), .agg #[.int .i64 c.k, .string c.n, .slice c.an c.ln c.cn, .slice c.ak c.lk c.ck, .slice a1 s.types.length c1, .slice a2 s.sigs.length c2]] w fun e w' =>
      e = .returned (.bool (optOf s)) ∧ Below w.heap.size w w' := by
  obtain ⟨v, hv⟩ : ∃ v, v = optOf s := ⟨_, rfl⟩
  rw [← hv]
  unfold optOf at hv
  unfold optOk at ho
  simp only [Bool.and_eq_true, List.all_eq_true] at ho
  obtain ⟨⟨o1, o2⟩, o3⟩ := ho
  have hfl : fitL s.types := fun i h => (hf.types i h).2
  obtain ⟨x1, x2, x3, x4, x5, x6, x7, x8⟩ := c
  dsimp only
  obtain ⟨W0, hW0⟩ : ∃ W0, W0 = w.alloc (.cells #[.int .i64 x1, .string x2, .slice x3 x4 x5, .slice x6 x7 x8, .slice a1 s.types.length c1, .slice a2 s.sigs.length c2] 35) := ⟨_, rfl⟩
  have hs0 : W0.heap.size = w.heap.size + 1 := by rw [hW0]; simp
  have hb0 : Below w.heap.size w W0 := by rw [hW0]; exact (Below.refl _ _).alloc (Nat.le_refl _) _
  have hx0 : W0.heap[w.heap.size]? = some (.cells #[.int .i64 x1, .string x2, .slice x3 x4 x5, .slice x6 x7 x8, .slice a1 s.types.length c1, .slice a2 s.sigs.length c2] 35 (0, 0)) := by rw [hW0]; exact heap_alloc_new w _
  have kb : ∀ W, Below W0.heap.size W0 W → ∀ g, S g → W.heap[g]? = w.heap[g]? := fun W hB g hg => (hB.block g (by have := hS g hg; omega)).trans (hb0.block g (hS g hg))
  have kS : ∀ W, Below W0.heap.size W0 W → ∀ g, S g → g < W.heap.size := fun W hB g hg => by have h1 := hS g hg; have h2 := hB.size; omega
  have kV : ∀ W, Below W0.heap.size W0 W → SzV W S s ⟨x1, x2, x3, x4, x5, x6, x7, x8⟩ a1 us a2 gs := fun W hB => hV.keep (kb W hB)
  have kx : ∀ W, Below W0.heap.size W0 W → W.heap[w.heap.size]? = some (.cells #[.int .i64 x1, .string x2, .slice x3 x4 x5, .slice x6 x7 x8, .slice a1 s.types.length c1, .slice a2 s.sigs.length c2] 35 (0, 0)) := fun W hB => (hB.block _ (by omega)).trans hx0
  have kM : ∀ W, Below W0.heap.size W0 W → MapV W mb us := fun W hB => (hM.below hb0).below hB
  have CN := fun W (t : Tz) (ct : C4) (hB : Below W0.heap.size W0 W) (hft : fitZ t = true) (hop : opensZ s.types t = true) (ht : TzV W S t ct) => nestP mb s.types us S hfl t hft hop W ct (kS W hB) (kV W hB).ents ht (kM W hB)
  have CC := fun W (ks : List Tz) (vs : List C4) (ak : Option Addr) (ck : Nat) (hB : Below W0.heap.size W0 W) (hl : vs.length = ks.length) (hkl : ks.length ≤ maxLen) (hft : fitZs ks = true) (hop : opensZs s.types ks = true) (hk : RowV W S ak 4 (vs.map C4.cells)) (hu : ∀ i (h : i < ks.length) (h' : i < vs.length), TzV W S ks[i] vs[i]) =>
    contains_any mb s.types us S ks vs ak ck W (kS W hB) (kV W hB).ents (kM W hB) hl hkl hk hu (fun i h => nestP mb s.types us S hfl ks[i] (fitZs_mem ks hft i h) (opensZs_mem s.types ks hop i h))
  have hmf : ∀ (fn : Fn) (first cap : Array Value) (w : World), (Instr.makeFunc fn first cap).run Try.prog w = .ok (.func fn first cap) w := fun _ _ _ _ => rfl
  have hnt2 : s.types.length ≤ 9223372036854775807 := by unfold maxLen at hnt; omega
  have hng2 : s.sigs.length ≤ 9223372036854775807 := by unfold maxLen at hng; omega
  have HV := Lib.hid hv; have HB0 := Lib.hid hb0; have HW0 := Lib.hid hW0; have HS0 := Lib.hid hs0; have HKV := Lib.hid kV; have HKX := Lib.hid kx; have HCN := Lib.hid CN; have HCC := Lib.hid CC; have HKS := Lib.hid kS; have HF := Lib.hid hf; have HO1 := Lib.hid o1; have HO2 := Lib.hid o2; have HO3 := Lib.hid o3; have HSS := Lib.hid hS
  have HNT := Lib.hid hV.nt; have HNG := Lib.hid hV.ng
  clear hv hb0 hW0 hs0 kV kx CN CC kS hf kb hV hM hx0 kM hnt hng hS o1 o2 o3 hfl
  go_enter Try.func44, Try.ntmps44
  go_wp2
  rw [← HW0.out]
  go_loopw [12] (fun iv wr => ∃ j, j ≤ s.types.length ∧ iv = .int .i64 j ∧ Hid (∀ i (h : i < s.types.length), i < j → nestZ s.types s.types[i].2 = false) ∧ Hid (Below W0.heap.size W0 wr)) (fun iv _ => s.types.length - (intOf iv).toNat)
  case atStart => exact ⟨0, Nat.zero_le _, rfl, (fun i _ h => absurd h (Nat.not_lt_zero _)), Below.refl _ _⟩
  case round =>
    obtain ⟨j, hj, rfl, hq, hB⟩ := hrel
    have hws := hB.out.size
    have hS0 := HS0.out
    by_cases hlt : j < s.types.length
    · have hlu : j < us.length := by rw [HNT.out]; exact hlt
      have hVr := HKV.out wr hB.out
      obtain ⟨g, o, rfl, hg, hc⟩ := nam_at hVr.rt HSS.out j hlu
      obtain ⟨q0, q1, q2, q3, q4⟩ := hc wr (fun _ _ => rfl)
      obtain ⟨y1, y2⟩ := hVr.vt j hlt hlu
      have hjz : (j : Int) < (s.types.length : Int) := by omega
      have hop := opensZs_mem s.types (s.types.map (·.2)) HO1.out j (by rw [List.length_map]; exact hlt)
      rw [List.getElem_map] at hop
      have hfz := (HF.out.types j hlt).2
      have hz : nestZ s.types s.types[j].2 = false → ∀ i (h : i < s.types.length), i < j + 1 → nestZ s.types s.types[i].2 = false := fun h0 i hi hij => by
        by_cases e : i = j
        · subst e; exact h0
        · exact hq.out i hi (by omega)
      have ha : nestZ s.types s.types[j].2 = true → nestsZ s.types (s.types.map (·.2)) = true := fun h => by
        rw [nestsZ_any, List.any_eq_true]
        exact ⟨s.types[j].2, List.mem_map_of_mem (List.getElem_mem hlt), h⟩
      have HZ := Lib.hid hz; have HA := Lib.hid ha
      clear hc hz ha y1 hVr hq
      generalize hxx : us[j] = x at *
      obtain ⟨xn, ⟨z1, z2, z3, z4, z5, z6, z7, z8⟩⟩ := x
      dsimp only at *
      obtain ⟨W1, hW1⟩ : ∃ W1, W1 = wr.alloc (.cells #[.string ⟨xn.toArray⟩, .int .i64 z1, .string z2, .slice z3 z4 z5, .slice z6 z7 z8] 120) := ⟨_, rfl⟩
      have hBB : Below wr.heap.size wr W1 := by rw [hW1]; exact (Below.refl _ _).alloc (Nat.le_refl _) _
      have hBW : Below W0.heap.size W0 W1 := hB.out.trans (hBB.mono hws)
      have C := HCN.out W1 s.types[j].2 ⟨z1, z2, z3, z4, z5, z6, z7, z8⟩ hBW hfz hop (y2.later (fun g hg => by have := HSS.out g hg; omega) hBB)
      dsimp only at C
      have HC := Lib.hid C; have HBW := Lib.hid hBW
      clear C hBW hBB y2 hop hfz hxx
      subst hW1
      generalize nestZ s.types s.types[j].2 = q at *
      cases q
      · go_wp2_with (go_at_call 65; (refine HC.out.mono ?_); rintro e w1 ⟨rfl, b1⟩; have HB1 := Lib.hid b1; clear b1)
        go_roundw
        case rel => exact ⟨j + 1, by omega, by go_num, HZ.out (by trivial), HBW.out.trans (HB1.out.mono HBW.out.size)⟩
        case measure => simp [intOf]; omega
      · go_wp2_with (go_at_call 65; (refine HC.out.mono ?_); rintro e w1 ⟨rfl, b1⟩; have HB1 := Lib.hid b1; clear b1)
        go_ret
        have hx : v = true := by rw [HV.out, HA.out (by trivial)]; rfl
        rw [hx]
        exact ⟨rfl, HB0.out.trans ((HBW.out.trans (HB1.out.mono HBW.out.size)).mono (by omega))⟩
    · have hjn : j = s.types.length := by omega
      subst hjn
      have hz : nestsZ s.types (s.types.map (·.2)) = false := by
        rw [nestsZ_any, List.any_eq_false]
        intro x hx
        obtain ⟨y, hy, rfl⟩ := List.mem_map.1 hx
        obtain ⟨i, hi, rfl⟩ := List.getElem_of_mem hy
        rw [hq.out i hi hi]
        decide
      have hv2 := HV.out
      rw [hz, Bool.false_or] at hv2
      have HV := Lib.hid hv2
      obtain ⟨p0, p1, p2, p3, p4, p5⟩ := six_blk (HKX.out wr hB.out)
      clear hz hq hv2
      go_wp2
      clear p0 p1 p2 p3 p4 p5
      obtain ⟨wo, hwo⟩ : ∃ wo, wo = wr := ⟨wr, rfl⟩
      subst hwo
      go_loopw [24] (fun iv wr => ∃ j, j ≤ s.sigs.length ∧ iv = .int .i64 j ∧ Hid (∀ i (h : i < s.sigs.length), i < j → (nestZ s.types s.sigs[i].result || nestsZ s.types s.sigs[i].params) = false) ∧ Hid (Below W0.heap.size W0 wr)) (fun iv _ => s.sigs.length - (intOf iv).toNat)
      case atStart => exact ⟨0, Nat.zero_le _, rfl, (fun i _ h => absurd h (Nat.not_lt_zero _)), hB⟩
      case round =>
        clear hB
        obtain ⟨j, hj, rfl, hq, hB⟩ := hrel
        have hws := hB.out.size
        by_cases hlt : j < s.sigs.length
        · have hlu : j < gs.length := by rw [HNG.out]; exact hlt
          have hVr := HKV.out wr hB.out
          obtain ⟨g, o, rfl, hg, hc⟩ := sig_at hVr.rg HSS.out j hlu
          obtain ⟨q0, q1, q2, q3, q4, q5⟩ := hc wr (fun _ _ => rfl)
          obtain ⟨y1, y2, ⟨ps, y3, y4, y5⟩, y6⟩ := hVr.vg j hlt hlu
          have hjz : (j : Int) < (s.sigs.length : Int) := by omega
          have hop := HO2.out s.sigs[j] (List.getElem_mem hlt)
          have hfz := HF.out.sigs j hlt
          unfold fitG at hfz
          simp only [Bool.and_eq_true, decide_eq_true_eq] at hfz
          have hz : (nestZ s.types s.sigs[j].result || nestsZ s.types s.sigs[j].params) = false → ∀ i (h : i < s.sigs.length), i < j + 1 → (nestZ s.types s.sigs[i].result || nestsZ s.types s.sigs[i].params) = false := fun h0 i hi hij => by
            by_cases e : i = j
            · subst e; exact h0
            · exact hq.out i hi (by omega)
          have ha : (nestZ s.types s.sigs[j].result || nestsZ s.types s.sigs[j].params) = true → (s.sigs.any fun g => nestZ s.types g.result || nestsZ s.types g.params) = true := fun h => by
            rw [List.any_eq_true]
            exact ⟨s.sigs[j], List.getElem_mem hlt, h⟩
          have HZ := Lib.hid hz; have HA := Lib.hid ha
          clear hc hz ha y1 hVr hq
          generalize hxx : gs[j] = x at *
          obtain ⟨xn, ⟨xa, xl, xc, ⟨z1, z2, z3, z4, z5, z6, z7, z8⟩⟩⟩ := x
          dsimp only at *
          subst y2
          obtain ⟨W1, hW1⟩ : ∃ W1, W1 = wr.alloc (.cells #[.string ⟨xn.toArray⟩, .slice xa s.sigs[j].params.length xc, .int .i64 z1, .string z2, .slice z3 z4 z5, .slice z6 z7 z8] 58) := ⟨_, rfl⟩
          have hBB : Below wr.heap.size wr W1 := by rw [hW1]; exact (Below.refl _ _).alloc (Nat.le_refl _) _
          have hX1 : W1.heap[wr.heap.size]? = some (.cells #[.string ⟨xn.toArray⟩, .slice xa s.sigs[j].params.length xc, .int .i64 z1, .string z2, .slice z3 z4 z5, .slice z6 z7 z8] 58 (0, 0)) := by rw [hW1]; exact heap_alloc_new wr _
          have hl1 : wr.heap.size < W1.heap.size := by rw [hW1]; simp
          have hBW : Below W0.heap.size W0 W1 := hB.out.trans (hBB.mono hws)
          have kl : ∀ W, Below W1.heap.size W1 W → ∀ g, S g → W.heap[g]? = wr.heap[g]? := fun W hW g hg => (hW.block g (by have := HSS.out g hg; omega)).trans (hBB.block g (by have := HSS.out g hg; omega))
          have C1 := HCN.out W1 s.sigs[j].result ⟨z1, z2, z3, z4, z5, z6, z7, z8⟩ hBW hfz.2 hop.1 (y6.keep (fun _ h => h) (kl W1 (Below.refl _ _)))
          have C2 := fun W (hW : Below W1.heap.size W1 W) => HCC.out W s.sigs[j].params ps xa xc (hBW.trans (hW.mono hBW.size)) y3 hfz.1.1.2 hfz.1.2 hop.2 (y4.keep (fun _ h => h) (kl W hW)) (fun i h h' => (y5 i h h').keep (fun _ h => h) (kl W hW))
          have hpl : s.sigs[j].params.length ≤ 9223372036854775807 := by have := hfz.1.1.2; unfold maxLen at this; exact this
          dsimp only at C1
          have HC1 := Lib.hid C1; have HC2 := Lib.hid C2; have HBW := Lib.hid hBW; have HX1 := Lib.hid hX1; have HL1 := Lib.hid hl1
          clear C1 C2 hBW hBB y6 y3 y4 y5 hop hfz hxx kl hX1 hl1
          subst hW1
          generalize s.sigs[j].params = pl at *
          generalize nestZ s.types s.sigs[j].result = q1 at *
          generalize nestsZ s.types pl = q2 at *
          cases q1
          · cases q2
            · go_wp2_with (first
                | (go_at_call 65; (refine HC1.out.mono ?_); rintro e w1 ⟨rfl, b1⟩; have HB1 := Lib.hid b1; obtain ⟨p0, p1, p2, p3, p4, p5⟩ := six_blk ((b1.block _ HL1.out).trans HX1.out); clear b1)
                | (go_at_call 66; (refine (HC2.out _ HB1.out).mono ?_); rintro e w2 ⟨rfl, b2⟩; have HB2 := Lib.hid (HB1.out.trans (b2.mono HB1.out.size)); clear b2))
              go_roundw
              case rel => exact ⟨j + 1, by omega, by go_num, HZ.out (by trivial), HBW.out.trans (HB2.out.mono HBW.out.size)⟩
              case measure => simp [intOf]; omega
            · go_wp2_with (first
                | (go_at_call 65; (refine HC1.out.mono ?_); rintro e w1 ⟨rfl, b1⟩; have HB1 := Lib.hid b1; obtain ⟨p0, p1, p2, p3, p4, p5⟩ := six_blk ((b1.block _ HL1.out).trans HX1.out); clear b1)
                | (go_at_call 66; (refine (HC2.out _ HB1.out).mono ?_); rintro e w2 ⟨rfl, b2⟩; have HB2 := Lib.hid (HB1.out.trans (b2.mono HB1.out.size)); clear b2))
              go_ret
              have hx : v = true := by rw [HV.out, HA.out (by trivial)]; rfl
              rw [hx]
              exact ⟨rfl, HB0.out.trans ((HBW.out.trans (HB2.out.mono HBW.out.size)).mono (by omega))⟩
          · go_wp2_with (go_at_call 65; (refine HC1.out.mono ?_); rintro e w1 ⟨rfl, b1⟩; have HB1 := Lib.hid b1; obtain ⟨p0, p1, p2, p3, p4, p5⟩ := six_blk ((b1.block _ HL1.out).trans HX1.out); clear b1)
            go_ret
            have hx : v = true := by rw [HV.out, HA.out (by trivial)]; rfl
            rw [hx]
            exact ⟨rfl, HB0.out.trans ((HBW.out.trans (HB1.out.mono HBW.out.size)).mono (by omega))⟩
        · have hjn : j = s.sigs.length := by omega
          subst hjn
          have hz : (s.sigs.any fun g => nestZ s.types g.result || nestsZ s.types g.params) = false := by
            rw [List.any_eq_false]
            intro x hx
            obtain ⟨i, hi, rfl⟩ := List.getElem_of_mem hx
            rw [hq.out i hi hi]
            decide
          have hv2 := HV.out
          rw [hz, Bool.false_or] at hv2
          have HV := Lib.hid hv2
          have hVr := HKV.out wr hB.out
          have C := HCN.out wr s.main ⟨x1, x2, x3, x4, x5, x6, x7, x8⟩ hB.out HF.out.main HO3.out hVr.main
          dsimp only at C
          have HC := Lib.hid C
          obtain ⟨p0, p1, p2, p3, p4, p5⟩ := six_blk (HKX.out wr hB.out)
          clear hz hq hv2 C hVr
          go_wp2_with (go_at_call 65; (refine HC.out.mono ?_); rintro e w1 ⟨rfl, b1⟩; have HB1 := Lib.hid b1; clear b1)
          go_ret
          rw [HV.out]
          exact ⟨rfl, HB0.out.trans ((hB.out.trans (HB1.out.mono hws)).mono (by omega))⟩
end Sp
end Go.Proofs.Yteooafgdmpbjeab
