/- slices.ContainsFunc with nested. -/
import Derived.Test.YtdophmlnmbcjlaaT13
namespace Go.Proofs.Ytdophmlnmbcjlaa
open Go.RowKit
namespace Sp
open Sc
def NestP (mb : Nat) (l : List NT) (us : List (List UInt8 × C4)) (S : Nat → Prop) (t : Tz) : Prop :=
  ∀ (w : World) (c : C4), (∀ g, S g → g < w.heap.size) → EntV w S l us → TzV w S t c → MapV w mb us →
    Calls Try.prog 71 #[.map (some mb), .agg #[.int .i64 c.k, .string c.n, .slice c.an c.ln c.cn, .slice c.ak c.lk c.ck]] w fun e w' => e = .returned (.bool (nestZ l t)) ∧ Below w.heap.size w w'
set_option maxRecDepth 100000 in
set_option maxHeartbeats 8000000 in
theorem index_any (mb : Nat) (l : List NT) (us : List (List UInt8 × C4)) (S : Nat → Prop) (ks : List Tz) (vs : List C4) (ak : Option Addr) (ck : Nat) (w : World) (hS : ∀ g, S g → g < w.heap.size) (hE : EntV w S l us) (hM : MapV w mb us)
    (hlen : vs.length = ks.length) (hkl : ks.length ≤ maxLen) (hk : RowV w S ak 4 (vs.map C4.cells)) (hu : ∀ i (h : i < ks.length) (h' : i < vs.length), TzV w S ks[i] vs[i]) (IH : ∀ i (h : i < ks.length), NestP mb l us S ks[i]) :
    Calls Try.prog 93 #[.slice ak ks.length ck, .func (.func 71) #[.map (some mb)] #[]] w fun e w' => ∃ r : Int, e = .returned (.int .i64 r) ∧ decide (0 ≤ r) = nestsZ l ks ∧ Below w.heap.size w w' := by
  unfold maxLen at hkl
  have HS := Lib.hid hS; have HE := Lib.hid hE; have HM := Lib.hid hM; have HK := Lib.hid hk; have HU := Lib.hid hu; have HI := Lib.hid IH
  clear hS hE hM hk hu IH
  go_enter Try.func93, Try.ntmps93
  go_wp2
  go_loopw [8] (fun iv wr => ∃ j, j ≤ ks.length ∧ iv = .int .i64 j ∧ Hid (∀ i (h : i < ks.length), i < j → nestZ l ks[i] = false) ∧ Hid (Below w.heap.size w wr)) (fun iv _ => ks.length - (intOf iv).toNat)
  case atStart => exact ⟨0, Nat.zero_le _, rfl, (fun i _ h => absurd h (Nat.not_lt_zero _)), Below.refl _ _⟩
  case round =>
    obtain ⟨j, hj, rfl, hq, hB⟩ := hrel
    have hws := hB.out.size
    by_cases hlt : j < ks.length
    · have hlu : j < vs.length := by omega
      obtain ⟨g, o, rfl, hg, hc⟩ := four_at HK.out HS.out j hlu
      obtain ⟨c0, c1, c2, c3⟩ := hc wr (fun k hk => hB.out.block k hk)
      have kb : ∀ g, S g → wr.heap[g]? = w.heap[g]? := fun g hg => hB.out.block g (HS.out g hg)
      have C := HI.out j hlt wr vs[j] (fun g hg => Nat.lt_of_lt_of_le (HS.out g hg) hws) (HE.out.keep kb) ((HU.out j hlt hlu).keep (fun _ h => h) kb) (HM.out.below hB.out)
      have hjz : (j : Int) < (ks.length : Int) := by omega
      have hz : nestZ l ks[j] = false → ∀ i (h : i < ks.length), i < j + 1 → nestZ l ks[i] = false := fun h0 i hi hij => by
        by_cases e : i = j
        · subst e; exact h0
        · exact hq.out i hi (by omega)
      have ha : nestZ l ks[j] = true → nestsZ l ks = true := fun h => by
        rw [nestsZ_any, List.any_eq_true]
        exact ⟨ks[j], List.getElem_mem hlt, h⟩
      have HC := Lib.hid C; have HZ := Lib.hid hz; have HA := Lib.hid ha
      clear hc kb C hz ha
      generalize nestZ l ks[j] = q at *
      generalize vs[j] = x at *
      obtain ⟨x1, x2, x3, x4, x5, x6, x7, x8⟩ := x
      dsimp only at *
      cases q
      · go_wp2_with (go_at_call 71; (refine HC.out.mono ?_); rintro e w1 ⟨rfl, b1⟩; have HB1 := Lib.hid b1; clear b1)
        go_roundw
        case rel => exact ⟨j + 1, by omega, by go_num, HZ.out (by trivial), hB.out.trans (HB1.out.mono hws)⟩
        case measure => simp [intOf]; omega
      · go_wp2_with (go_at_call 71; (refine HC.out.mono ?_); rintro e w1 ⟨rfl, b1⟩; have HB1 := Lib.hid b1; clear b1)
        go_ret
        exact ⟨j, rfl, by rw [HA.out (by trivial)]; simp, hB.out.trans (HB1.out.mono hws)⟩
    · have hjn : j = ks.length := by omega
      subst hjn
      have hz : nestsZ l ks = false := by
        rw [nestsZ_any, List.any_eq_false]
        intro x hx
        obtain ⟨i, hi, rfl⟩ := List.getElem_of_mem hx
        rw [hq.out i hi hi]
        decide
      have HZ := Lib.hid hz
      clear hz
      go_wp2
      go_ret
      exact ⟨-1, rfl, by rw [HZ.out]; decide, hB.out⟩
set_option maxRecDepth 100000 in
set_option maxHeartbeats 4000000 in
theorem contains_any (mb : Nat) (l : List NT) (us : List (List UInt8 × C4)) (S : Nat → Prop) (ks : List Tz) (vs : List C4) (ak : Option Addr) (ck : Nat) (w : World) (hS : ∀ g, S g → g < w.heap.size) (hE : EntV w S l us) (hM : MapV w mb us)
    (hlen : vs.length = ks.length) (hkl : ks.length ≤ maxLen) (hk : RowV w S ak 4 (vs.map C4.cells)) (hu : ∀ i (h : i < ks.length) (h' : i < vs.length), TzV w S ks[i] vs[i]) (IH : ∀ i (h : i < ks.length), NestP mb l us S ks[i]) :
    Calls Try.prog 72 #[.slice ak ks.length ck, .func (.func 71) #[.map (some mb)] #[]] w fun e w' => e = .returned (.bool (nestsZ l ks)) ∧ Below w.heap.size w w' := by
  have C := index_any mb l us S ks vs ak ck w hS hE hM hlen hkl hk hu IH
  have HC := Lib.hid C
  clear C hS hE hM hk hu IH
  go_enter Try.func72, Try.ntmps72
  go_wp2_with (go_at_call 93; (refine HC.out.mono ?_); rintro e w1 ⟨r, rfl, hr, b1⟩; have HR := Lib.hid hr; have HB1 := Lib.hid b1; clear hr b1)
  go_ret
  exact ⟨by rw [← HR.out]; rfl, HB1.out⟩
end Sp
end Go.Proofs.Ytdophmlnmbcjlaa
namespace Go.Proofs.Ytdophmlnmbcjlaa
open Go.RowKit
namespace Sp
open Sc
set_option maxRecDepth 100000 in
set_option maxHeartbeats 8000000 in
theorem nested_any (mb : Nat) (l : List NT) (us : List (List UInt8 × C4)) (S : Nat → Prop) (k : Int) (nm : List UInt8) (ns : List (List UInt8)) (ks : List Tz) (hf : fitZ (.mk k nm ns ks) = true) (hfl : fitL l) (ho : opensZ l (.mk k nm ns ks) = true)
    (IH : ∀ i (h : i < ks.length), NestP mb l us S ks[i]) : NestP mb l us S (.mk k nm ns ks) := by
  intro w c hS hE hV hM
  obtain ⟨f1, f2, f3, f4, f5⟩ := fitZ_mk hf
  cases hV with
  | mk _ _ _ _ an cn ak ck vs hl hnr hkr hu =>
  dsimp only
  obtain ⟨v, hv⟩ : ∃ v, v = nestZ l (.mk k nm ns ks) := ⟨_, rfl⟩
  rw [← hv]
  unfold nestZ at hv
  unfold opensZ at ho
  obtain ⟨W0, hW0⟩ : ∃ W0, W0 = w.alloc (.cells #[.int .i64 k, .string ⟨nm.toArray⟩, .slice an ns.length cn, .slice ak ks.length ck] 30) := ⟨_, rfl⟩
  have hs0 : W0.heap.size = w.heap.size + 1 := by rw [hW0]; simp
  have hb0 : Below w.heap.size w W0 := by rw [hW0]; exact (Below.refl _ _).alloc (Nat.le_refl _) _
  have hx0 : W0.heap[w.heap.size]? = some (.cells #[.int .i64 k, .string ⟨nm.toArray⟩, .slice an ns.length cn, .slice ak ks.length ck] 30 (0, 0)) := by rw [hW0]; exact heap_alloc_new w _
  have kb : ∀ W, Below W0.heap.size W0 W → ∀ g, S g → W.heap[g]? = w.heap[g]? := fun W hB g hg => (hB.block g (by have := hS g hg; omega)).trans (hb0.block g (hS g hg))
  have kS : ∀ W, Below W0.heap.size W0 W → ∀ g, S g → g < W.heap.size := fun W hB g hg => by have h1 := hS g hg; have h2 := hB.size; omega
  have CC := fun W (hB : Below W0.heap.size W0 W) => contains_any mb l us S ks vs ak ck W (kS W hB) (hE.keep (kb W hB)) ((hM.below hb0).below hB) hl f4 (hkr.keep (fun _ h => h) (kb W hB)) (fun i h h' => (hu i h h').keep (fun _ h => h) (kb W hB)) IH
  have hmf : ∀ (fn : Fn) (first cap : Array Value) (w : World), (Instr.makeFunc fn first cap).run Try.prog w = .ok (.func fn first cap) w := fun _ _ _ _ => rfl
  have hks : ks.length ≤ 9223372036854775807 := by unfold maxLen at f4; exact f4
  have HCC := Lib.hid CC; have HX0 := Lib.hid hx0; have HB0 := Lib.hid hb0; have HS0 := Lib.hid hs0; have HW0 := Lib.hid hW0; have HV := Lib.hid hv
  by_cases h6 : k = 6
  · subst h6
    simp only [decide_true, Bool.not_true, Bool.false_or, Bool.and_eq_true, decide_eq_true_eq, Bool.not_eq_true', decide_eq_false_iff_not] at ho
    obtain ⟨⟨hpos, hop⟩, _⟩ := ho
    have hlu : 0 < vs.length := by omega
    obtain ⟨g, o, rfl, hg, hc⟩ := four_at hkr hS 0 hlu
    obtain ⟨c0, c1, c2, c3⟩ := hc W0 (fun k hk => hb0.block k hk)
    have hk0 : kid0 ks = ks[0] := by unfold kid0; cases ks with | nil => exact absurd hpos (by simp) | cons a b => rfl
    rw [hk0] at hop
    have CO := open_any mb l us S 13 ks[0] vs[0] W0 (kS W0 (Below.refl _ _)) (hE.keep (kb W0 (Below.refl _ _))) ((hu 0 hpos hlu).keep (fun _ h => h) (kb W0 (Below.refl _ _))) (hM.below hb0) hop (fitZs_mem ks f5 0 hpos) hfl
    have hpz : (0 : Int) < (ks.length : Int) := by omega
    have hfld : ∀ (d1 : Int) (d2 : ByteArray) (d3 : Option Addr) (d4 d5 : Nat) (d6 : Option Addr) (d7 d8 : Nat) (w : World), (Instr.field 30 (.agg #[.int .i64 d1, .string d2, .slice d3 d4 d5, .slice d6 d7 d8]) 0).run Try.prog w = .ok (.int .i64 d1) w := fun _ _ _ _ _ _ _ _ _ => by kernel_rfl
    have HCO := Lib.hid CO; have HK0 := Lib.hid hk0
    clear hc hS hE hM hnr hkr hu IH f1 f2 f3 f4 f5 hf hfl kb kS CC CO hx0 hb0 hs0 hop hv hk0
    rw [HW0.out] at c0 c1 c2 c3
    simp only [Nat.zero_mul, Nat.add_zero] at c0 c1 c2 c3
    clear hW0
    generalize hok : (openZ l 13 ks[0]).kind = ok at *
    generalize vs[0] = x at *
    obtain ⟨x1, x2, x3, x4, x5, x6, x7, x8⟩ := x
    dsimp only at *
    by_cases hk6 : ok = 6
    · have hx : v = true := by rw [HV.out, HK0.out, hok, hk6]; rfl
      subst hk6
      go_enter Try.func71, Try.ntmps71
      rw [hx]
      clear hx hok HV HK0 hmf HCC HX0
      go_wp2_with fail
      rw [← HW0.out]
      go_wp2_with (go_at_call 92; (refine HCO.out.mono ?_); rintro e w1 ⟨⟨y1, y2, y3, y4, y5, y6, y7, y8⟩, rfl, hy, b1⟩; dsimp only at hy; subst hy; have HB1 := Lib.hid b1; clear b1)
      go_ret
      exact ⟨rfl, HB0.out.trans (HB1.out.mono (by rw [HS0.out]; omega))⟩
    · have hx : v = nestsZ l ks := by rw [HV.out, HK0.out, hok, decide_eq_false hk6, Bool.and_false, Bool.false_or]
      have t6 : (ok == 6) = false := by simpa using hk6
      go_enter Try.func71, Try.ntmps71
      rw [hx]
      clear hx hok hk6 HV HK0
      go_wp2_with fail
      rw [← HW0.out]
      go_wp2_with (first
        | (go_at_call 92; (refine HCO.out.mono ?_); rintro e w1 ⟨⟨y1, y2, y3, y4, y5, y6, y7, y8⟩, rfl, hy, b1⟩; dsimp only at hy; subst hy; have HB1 := Lib.hid b1; obtain ⟨⟨p0, p1, p2, p3⟩, _⟩ := four_blk ((b1.block w.heap.size (by rw [HS0.out]; omega)).trans HX0.out); clear b1)
        | (go_at_call 72; (refine (HCC.out _ HB1.out).mono ?_); rintro e w2 ⟨rfl, b2⟩; have HB2 := Lib.hid (HB1.out.trans (b2.mono HB1.out.size)); clear b2))
      go_ret
      exact ⟨rfl, HB0.out.trans (HB2.out.mono (by rw [HS0.out]; omega))⟩
  · have hx : v = nestsZ l ks := by rw [HV.out, decide_eq_false h6, Bool.false_and, Bool.false_or]
    have t6 : (k == 6) = false := by simpa using h6
    have HB1 := Lib.hid (Below.refl W0.heap.size W0)
    clear hS hE hM hnr hkr hu IH f1 f2 f3 f4 f5 hf hfl kb kS CC hx0 hb0 hs0 hv hW0 ho h6
    go_enter Try.func71, Try.ntmps71
    rw [hx]
    clear hx HV
    go_wp2_with fail
    rw [← HW0.out]
    go_wp2_with (go_at_call 72; (refine (HCC.out _ HB1.out).mono ?_); rintro e w2 ⟨rfl, b2⟩; have HB2 := Lib.hid b2; clear b2)
    go_ret
    exact ⟨rfl, HB0.out.trans (HB2.out.mono (by rw [HS0.out]; omega))⟩
theorem nestP_all (mb : Nat) (l : List NT) (us : List (List UInt8 × C4)) (S : Nat → Prop) (hfl : fitL l) : ∀ (N : Nat) (t : Tz), sizeZ t ≤ N → fitZ t = true → opensZ l t = true → NestP mb l us S t
  | 0, t, h, _, _ => absurd (sizeZ_pos t) (by omega)
  | N + 1, .mk k nm ns ks, h, hf, ho => nested_any mb l us S k nm ns ks hf hfl ho (fun i hi =>
      nestP_all mb l us S hfl N ks[i] (by have := sizeZ_mem ks i hi; rw [sizeZ] at h; omega) (fitZs_mem ks (fitZ_mk hf).2.2.2.2 i hi) (by
        unfold opensZ at ho
        rw [Bool.and_eq_true] at ho
        exact opensZs_mem l ks ho.2 i hi))
theorem nestP (mb : Nat) (l : List NT) (us : List (List UInt8 × C4)) (S : Nat → Prop) (hfl : fitL l) (t : Tz) (hf : fitZ t = true) (ho : opensZ l t = true) : NestP mb l us S t := nestP_all mb l us S hfl _ t (Nat.le_refl _) hf ho
end Sp
end Go.Proofs.Ytdophmlnmbcjlaa
