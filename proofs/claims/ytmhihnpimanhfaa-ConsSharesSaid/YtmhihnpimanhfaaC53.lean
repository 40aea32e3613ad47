/- ConsShares: its walk. Written by gen_kshar.py. -/
import Derived.Test.YtmhihnpimanhfaaC50
import Derived.Test.YtmhihnpimanhfaaC52
import Derived.Test.YtmhihnpimanhfaaC49
import Derived.Test.YtmhihnpimanhfaaC33
import Derived.Test.YtmhihnpimanhfaaC34
import Derived.Test.YtmhihnpimanhfaaC21
namespace Go.Proofs.Ytmhihnpimanhfaa
open Go.RowKit
namespace Sp
open Sc
set_option maxRecDepth 100000
/-- The type within k more: it lies in its variable. -/
structure ShR (W4 W7 : World) (yb : Nat) (x : Tz) (n : Nat) (iv : Value) (wr : World) (k : Nat) (cy : C4) : Prop where
  slot : iv = .int .i64 k
  le : k ≤ n
  yat : wr.heap[yb]? = some (.cells #[.int .i64 cy.k, .string cy.n, .slice cy.an cy.ln cy.cn, .slice cy.ak cy.lk cy.ck] 25 (0, 0))
  yv : TzV wr (fun g => (g < W4.heap.size ∨ yb < g) ∧ g < wr.heap.size) (shT x k) cy
  keeps : Keeps (fun g => g = yb) W7 wr
/-- Down the second loop: the number of the k-th. -/
structure ShD (W4 : World) (f : Nat → Nat) (n tb rb nb mb gb m : Nat) (ty nu : Value) (T2 : List Kz) (N : List NN) (G : List GN) (vs : List Value) (dv kv : Value) (wr : World) (k : Nat) : Prop where
  id : dv = .int .i64 (f k : Nat)
  slot : kv = .int .i64 k
  le : k ≤ n
  st : StV W4.heap.size wr tb rb nb mb gb m ty nu T2 N G vs
  below : Below W4.heap.size W4 wr
theorem int1K {w : World} {S : Nat → Prop} {a : Option Addr} {ks : List Nat} (h : RowV w S a 1 (ks.map fun (j : Nat) => [Value.int .i64 (j : Nat)])) (j : Nat) (hj : j < ks.length) :
    ∃ g o, a = some ⟨g, o, none⟩ ∧ S g ∧ ∀ W : World, W.heap[g]? = w.heap[g]? → W.cell? ⟨g, o + j, none⟩ = some (.int .i64 (ks[j] : Nat)) := by
  rcases h with h | ⟨g, o, ha, hg, hc⟩
  · rw [List.map_eq_nil_iff] at h; rw [h] at hj; cases hj
  · refine ⟨g, o, ha, hg, fun W hW => ?_⟩
    have := hc j (by simpa using hj) 0 (.int .i64 (ks[j] : Nat)) (by simp)
    rw [Nat.mul_one, Nat.add_zero] at this
    exact (World.cell?_of_block (a := ⟨g, o + j, none⟩) hW).trans this
set_option maxHeartbeats 16000000 in
theorem ConsShares_any (rw_ : Rw) (cm : R4) (n0 : Int) (w : World) (hM : RwV w rw_ cm) (hi1 : -9223372036854775808 ≤ n0) (hi2 : n0 ≤ 9223372036854775807) :
    Calls Try.prog 5 #[.agg #[.int .i64 cm.k, .int .i64 cm.n, .slice cm.an cm.ln cm.cn, .slice cm.ak cm.lk cm.ck], .int .i64 n0] w fun e w' => e = .returned (.bool true) ∧ Below w.heap.size w w' := by
  obtain ⟨n, hn, hn6⟩ : ∃ n : Nat, n0 % 6 = n ∧ n < 6 := ⟨(n0 % 6).toNat, by omega, by omega⟩
  have HM := Lib.hid hM; have HNN := Lib.hid hn
  clear hM hn
  obtain ⟨W0, hW0⟩ : ∃ W0, W0 = w.alloc (.cells #[.int .i64 cm.k, .int .i64 cm.n, .slice cm.an cm.ln cm.cn, .slice cm.ak cm.lk cm.ck] 33) := ⟨_, rfl⟩
  have hb0 : Below w.heap.size w W0 := by rw [hW0]; exact (Below.refl _ _).alloc (Nat.le_refl _) _
  have hz0 : W0.heap.size = w.heap.size + 1 := by rw [hW0]; simp
  have hs0 : W0.heap[w.heap.size]? = some (.cells #[.int .i64 cm.k, .int .i64 cm.n, .slice cm.an cm.ln cm.cn, .slice cm.ak cm.lk cm.ck] 33 (0, 0)) := by rw [hW0]; exact heap_alloc_new w _
  have HW0 := Lib.hid hW0; have HB0 := Lib.hid hb0; have HS0 := Lib.hid hs0
  clear hW0 hb0 hs0
  obtain ⟨fw, hfw⟩ : ∃ fw, fewR rw_ 30 = fw := ⟨_, rfl⟩
  have HFW := Lib.hid hfw
  clear hfw
  obtain ⟨x, hx⟩ : ∃ x, treeR [] 4 rw_ = x := ⟨_, rfl⟩
  have hfit : fitZ x = true := by rw [← hx]; exact treeR_fit [] (fun _ h => by cases h) 4 rw_
  have hsh : shortZ x = true := by rw [← hx]; exact treeR_short [] (fun _ h => by cases h) 4 rw_
  have hsz : sizeZ x ≤ 85 := by rw [← hx]; exact (treeR_good [] 4 rw_).2
  have HX := Lib.hid hx; have HFIT := Lib.hid hfit; have HSH := Lib.hid hsh; have HSZ := Lib.hid hsz
  clear hx hfit hsh hsz
  go_enter Try.func5, Try.ntmps5
  go_upto_region 1 with fail
  rw [← HW0.out]
  clear HW0
  go_upto_region 3 with (go_at_call 20; (with_reducible refine (known5_any _).mono ?_); rintro e w1 ⟨rfl, x1⟩; have hz1 := x1.size; obtain ⟨⟨p0, p1, p2, p3⟩, _⟩ := four_blk ((x1.block w.heap.size (by omega)).trans HS0.out); have HS1 := Lib.hid ((x1.block w.heap.size (by omega)).trans HS0.out); have HB1 := Lib.hid (HB0.out.trans (x1.mono (by omega))); clear x1)
  have CF := Few_any rw_ cm 30 w1 (HM.out.later HB1.out) ⟨by omega, by omega⟩
  rw [HFW.out] at CF
  have HCF := Lib.hid CF
  clear CF
  by_cases hf0 : fw = 0
  · subst hf0
    go_wp2_with (go_at_call 26; (refine HCF.out.mono ?_); rintro e w2 ⟨rfl, x2⟩; have HX2 := Lib.hid x2; clear x2)
    go_ret
    exact ⟨rfl, HB1.out.trans (HX2.out.mono (by omega))⟩
  · have tf : (fw == 0) = false := by simpa using hf0
    go_upto_region 5 with (go_at_call 26; (refine HCF.out.mono ?_); rintro e w2 ⟨rfl, x2⟩; have hz2 := x2.size; obtain ⟨⟨m0, m1, m2, m3⟩, _⟩ := four_blk ((x2.block w.heap.size (by omega)).trans HS1.out); have HB2 := Lib.hid (HB1.out.trans (x2.mono (by omega))); clear x2)
    have CT := Tree_any 4 (by omega) rw_ cm [] none 0 w2 (HM.out.later HB2.out) (.inl rfl) (by simp)
    rw [HX.out] at CT
    unfold TreeP at CT
    have HCT := Lib.hid CT
    clear CT p0 p1 p2 p3
    go_upto_region 6 with (go_at_call 27; (refine HCT.out.mono ?_); rintro e w3 ⟨c, rfl, hv3, x3⟩; have hz3 := x3.size; have HV3 := Lib.hid hv3; have HB3 := Lib.hid (HB2.out.trans (x3.mono (by omega))); clear x3 hv3)
    obtain ⟨W4, hW4⟩ : ∃ W4, W4 = w3.alloc (.cells #[.int .i64 c.k, .string c.n, .slice c.an c.ln c.cn, .slice c.ak c.lk c.ck] 25) := ⟨_, rfl⟩
    have hz4 : W4.heap.size = w3.heap.size + 1 := by rw [hW4]; simp
    have hb4 : Below w3.heap.size w3 W4 := by rw [hW4]; exact (Below.refl _ _).alloc (Nat.le_refl _) _
    have hx4 : W4.heap[w3.heap.size]? = some (.cells #[.int .i64 c.k, .string c.n, .slice c.an c.ln c.cn, .slice c.ak c.lk c.ck] 25 (0, 0)) := by rw [hW4]; exact heap_alloc_new w3 _
    have hv4 : TzV W4 (fun g => g < w3.heap.size) x c := HV3.out.keep (fun _ hg => hg.2) (fun g hg => hb4.block g hg.2)
    have hbw4 := HB3.out.trans (hb4.mono (by have := HB3.out.size; omega))
    rw [← hW4]
    obtain ⟨⟨c0, c1, c2, c3⟩, -⟩ := four_blk hx4
    have HX4 := Lib.hid hx4; have HV4 := Lib.hid hv4; have HBW4 := Lib.hid hbw4
    have hw4 := hbw4.size
    have hxw : w3.heap.size < W4.heap.size := by omega
    clear hW4 hb4 hx4 hv4 hbw4 hz4 m0 m1 m2 m3
    by_cases hk6 : c.k = 6
    · have t6 : (c.k == 6) = true := by simpa using hk6
      clear hk6
      go_wp2
      go_ret
      exact ⟨rfl, HBW4.out⟩
    · have t6 : (c.k == 6) = false := by simpa using hk6
      clear hk6
      obtain ⟨s, hs⟩ : ∃ s : Sz, s = ⟨x, [], []⟩ := ⟨_, rfl⟩
      have CN := New_any ⟨x, [], []⟩ c none none [] [] 0 0 W4 (fun g => g < w3.heap.size) (fun g hg => by omega) (SzV.build HV4.out (NmsV.nil none) (SgsV.nil none)) ⟨HFIT.out, (fun i h => by cases h), (fun i h => by cases h)⟩ ⟨(fun i h => by cases h), ⟨HFIT.out, HSH.out⟩, fun g h => by cases h⟩ (by simp) (by simp)
      rw [← hs] at CN
      have et : s.types.length = 0 := by rw [hs]; rfl
      have es : s.sigs.length = 0 := by rw [hs]; rfl
      rw [et, es] at CN
      clear et es
      obtain ⟨E, hE⟩ : ∃ E, refC s = E := ⟨_, rfl⟩
      have hNK : newK s = if E ≠ 0 then (E, default) else schemaK s := by unfold newK; rw [hE]
      rw [hNK] at CN
      have HCN := Lib.hid CN; have HE := Lib.hid hE; have HS := Lib.hid hs
      clear CN hE hNK
      by_cases hE0 : E = 0
      · subst hE0
        have hcn := HCN.out
        rw [if_neg (by decide)] at hcn
        obtain ⟨⟨pe, T, N, G, m⟩, hpk⟩ : ∃ pk, schemaK s = pk := ⟨_, rfl⟩
        rw [hpk] at hcn
        have HCN2 := Lib.hid hcn; have HPK := Lib.hid hpk
        clear hcn hpk HCN
        by_cases hp0 : pe = 0
        · subst hp0
          have BK := built_of HE.out (by rw [HPK.out])
          rw [HPK.out] at BK
          have hokx : okK (hasZ s.types) x = true := by have := (adds_of HE.out).main.1; rw [HS.out] at this ⊢; exact this
          have hhas : hasZ N = hasZ s.types := funext BK.has
          have hmain : treeK T x = (m, 0, T) := by
            have h1 := BK.main
            have h2 := typT_again BK.good.toTabW (m + 1) m (Nat.lt_succ_self _) h1.1
            rw [h1.2, HS.out] at h2
            exact h2
          have h120 : T.length ≤ 120 := BK.good.len
          have HOK := Lib.hid hokx; have HHAS := Lib.hid hhas; have HMAIN := Lib.hid hmain
          clear BK hokx hhas hmain
          go_upto_region 11 with (go_at_call 22; (refine HCN2.out.mono ?_); rintro e w5 ⟨⟨k1, -⟩, x5⟩; obtain ⟨tb, rb, nb, mb, gb, ty, nu, vs, rfl, hst⟩ := k1 rfl; have hz5 := x5.size; have HST := Lib.hid hst; have HX5 := Lib.hid x5; clear k1 hst x5)
          clear HCN2
          go_upto_region 12 with (go_at_call 28; (refine (len_any _ _ _ _ _ _ _ _ _ _ HST.out.tab).mono ?_); rintro e w6 ⟨rfl, b6⟩; have hz6 := b6.size; have HST6 := Lib.hid (HST.out.below b6); have HX6 := Lib.hid (HX5.out.trans (b6.mono (by omega))); clear b6)
          clear c0 c1 c2 c3
          obtain ⟨⟨c0, c1, c2, c3⟩, -⟩ := four_blk ((HX6.out.block w3.heap.size hxw).trans HX4.out)
          go_upto_region 13 with fail
          obtain ⟨yb, hyb⟩ : ∃ yb, yb = w6.heap.size := ⟨_, rfl⟩
          obtain ⟨W7, hW7⟩ : ∃ W7, W7 = w6.alloc (.cells #[.int .i64 c.k, .string c.n, .slice c.an c.ln c.cn, .slice c.ak c.lk c.ck] 25) := ⟨_, rfl⟩
          have hz7 : W7.heap.size = yb + 1 := by rw [hW7, hyb]; simp
          have hb7 : Below w6.heap.size w6 W7 := by rw [hW7]; exact (Below.refl _ _).alloc (Nat.le_refl _) _
          have hy7 : W7.heap[yb]? = some (.cells #[.int .i64 c.k, .string c.n, .slice c.an c.ln c.cn, .slice c.ak c.lk c.ck] 25 (0, 0)) := by rw [hW7, hyb]; exact heap_alloc_new w6 _
          have hall7 : Below W4.heap.size W4 W7 := HX6.out.trans (hb7.mono (by omega))
          have hyv7 : TzV W7 (fun g => (g < W4.heap.size ∨ yb < g) ∧ g < W7.heap.size) x c := HV4.out.keep (fun g hg => ⟨.inl (by omega), by omega⟩) (fun g hg => hall7.block g (by omega))
          have hst7 := HST6.out.below hb7
          have hown7 : ∀ g, Own tb rb nb g → g < yb := fun g hg => by rw [hyb]; exact HST6.out.tab.lt hg
          have hyw : W4.heap.size ≤ yb := by omega
          have hstf : ∀ v, Below yb W7 v → StV W4.heap.size v tb rb nb mb gb m ty nu T N G vs := fun v b => HST6.out.below (hb7.trans (by rw [← hyb]; exact b))
          rw [← hW7, ← hyb]
          have HY7 := Lib.hid hy7; have HSTF := Lib.hid hstf; have HALL7 := Lib.hid hall7; have HYV7 := Lib.hid hyv7; have HST7 := Lib.hid hst7; have HOWN := Lib.hid hown7; have HZ7 := Lib.hid hz7
          clear hstf hW7 hb7 hy7 hall7 hyv7 hst7 hown7 c0 c1 c2 c3 hyb hz7
          go_wp2_with (go_at_call 29; (have CW := within5_any n0 6 W7 (by omega) (by omega) hi1 hi2; rw [HNN.out] at CW; refine CW.mono ?_); rintro e w8 ⟨rfl, rfl⟩; clear CW)
          go_loopw [10] (fun iv wr => ∃ k cy, ShR W4 W7 yb x n iv wr k cy) (fun iv _ => n - (intOf iv).toNat)
          case atStart => exact ⟨0, c, rfl, Nat.zero_le _, HY7.out, HYV7.out, Keeps.refl _ _⟩
          case round =>
            obtain ⟨k, cy, h⟩ := hrel
            obtain rfl := h.slot
            have hkn := h.le
            have hwr := h.keeps.size
            have hyl := (Array.getElem?_eq_some_iff.1 h.yat).1
            by_cases hlt : k < n
            · have hkz : (k : Int) < (n : Int) := by omega
              obtain ⟨r, hr⟩ : ∃ r, k % 2 = r := ⟨_, rfl⟩
              have hr2 : r < 2 := by omega
              have hrz : (r : Int) < 2 := by omega
              have hr0 : (0 : Int) ≤ (r : Int) := by omega
              have hrem : (k : Int).tmod 2 = (r : Int) := by rw [Int.tmod_eq_emod_of_nonneg (by omega)]; omega
              obtain ⟨ka, hka⟩ : ∃ ka : Int, ka = 4 + (r : Int) := ⟨_, rfl⟩
              have HKA := Lib.hid hka; have HR := Lib.hid hr; have H := Lib.hid h; have HLT := Lib.hid hlt
              clear hka hr h
              go_upto_region 17 with fail
              refine wp_region_by (QJ (fun (x : Nat × Nat) qq => match qq with | 0 => .slice (some ⟨x.1, 0, none⟩) 2 2 | 1 => .int .i64 (k : Nat) | 2 => .int .i64 (r : Nat) | 3 => .pointer (some ⟨x.1, r, none⟩) | 4 => .int .i64 ka | 5 => .agg #[.int .i64 cy.k, .string cy.n, .slice cy.an cy.ln cy.cn, .slice cy.ak cy.lk cy.ck] | 6 => .slice (some ⟨x.2, 0, none⟩) 1 1 | 7 => .agg #[.int .i64 ka, .string ⟨#[]⟩, .slice none 0 0, .slice (some ⟨x.2, 0, none⟩) 1 1] | 8 => undef | _ => undef) (fun x listed v => ShM wr yb cy ka (listed.getD 0 false) (listed.getD 6 false) (listed.getD 8 false) x v)) (by kernel_rfl) ?_ ?_ ?_
              · exact ⟨by simp, Closed.start _, (0, 0), Fr.start _ _ _, ⟨Keeps.of_below (Below.drew (Below.refl _ _)), (fun h => by simp at h), (fun h => by simp at h), (fun _ => H.out.yat), (fun h => by simp at h), hyl⟩⟩
              · intro listed b v q hJ hi
                obtain ⟨hsz, hC, x, hF, hM⟩ := hJ
                have hMb : ShM wr yb cy ka (listed.getD 0 false) (listed.getD 6 false) (listed.getD 8 false) x v := hM
                obtain ⟨hl1, hiN⟩ := not_up hsz hi
                obtain ⟨_, o, ho, hdeps⟩ := mem_ready.1 hi
                have hiN : q < 9 := hiN
                obtain rfl | rfl | rfl | rfl | rfl | rfl | rfl | rfl | rfl : q = 0 ∨ q = 1 ∨ q = 2 ∨ q = 3 ∨ q = 4 ∨ q = 5 ∨ q = 6 ∨ q = 7 ∨ q = 8 := by omega
                · cases ho

                  have l3 : listed.getD 3 false = false := by
                    cases hh : listed.getD 3 false
                    · rfl
                    · have y0 := hC 3 _ rfl hh ⟨0, .data⟩ (by simp) rfl; rw [hl1] at y0; cases y0
                  refine QJ.make (v' := v.alloc (.cells #[.int .i64 4, .int .i64 5] 3)) (x := x) (x' := (v.heap.size, x.2)) hsz hC hi hF (Slots.of (by rfl)) rfl (wanted_none rfl) (fun q hq => match q, (show q ≠ 0 by rintro rfl; rw [hl1] at hq; cases hq), (show q ≠ 3 by rintro rfl; rw [l3] at hq; cases hq) with | 0, h, _ => absurd rfl h | 1, _, _ => rfl | 2, _, _ => rfl | 3, _, h => absurd rfl h | 4, _, _ => rfl | 5, _, _ => rfl | 6, _, _ => rfl | 7, _, _ => rfl | 8, _, _ => rfl | _ + 9, _, _ => rfl) (show ShM wr yb cy ka ((listed.setIfInBounds 0 true).getD 0 false) ((listed.setIfInBounds 0 true).getD 6 false) ((listed.setIfInBounds 0 true).getD 8 false) (v.heap.size, x.2) (v.alloc (.cells #[.int .i64 4, .int .i64 5] 3)) by rw [getD_setS (by rw [hsz]; decide), getD_setN (show 0 ≠ 6 by decide), getD_setN (show 0 ≠ 8 by decide)]; exact hMb.make0) ?_
                  show _ = Result.ok (Next.value (.slice (some ⟨v.heap.size, 0, none⟩) 2 2)) _
                  simp [execOp, go_sem]
                · cases ho
                  have e10 := hF.old_is 10 (by rfl) rfl
                  refine QJ.quiet (x := x) hsz hC hi hF (Slots.of (by rfl)) rfl (wanted_none rfl) (show ShM wr yb cy ka ((listed.setIfInBounds 1 true).getD 0 false) ((listed.setIfInBounds 1 true).getD 6 false) ((listed.setIfInBounds 1 true).getD 8 false) x v by rw [getD_setN (show 1 ≠ 0 by decide), getD_setN (show 1 ≠ 6 by decide), getD_setN (show 1 ≠ 8 by decide)]; exact hMb) ?_
                  show _ = Result.ok (Next.value (.int .i64 (k : Nat))) v
                  simp [execOp, go_sem, e10]
                · cases ho
                  have e45 : b.tmps[45]? = some (.int .i64 (k : Nat)) := hF.up 1 45 rfl (hdeps ⟨1, .data⟩ (by simp) rfl)
                  refine QJ.quiet (x := x) hsz hC hi hF (Slots.of (by rfl)) rfl (wanted_none rfl) (show ShM wr yb cy ka ((listed.setIfInBounds 2 true).getD 0 false) ((listed.setIfInBounds 2 true).getD 6 false) ((listed.setIfInBounds 2 true).getD 8 false) x v by rw [getD_setN (show 2 ≠ 0 by decide), getD_setN (show 2 ≠ 6 by decide), getD_setN (show 2 ≠ 8 by decide)]; exact hMb) ?_
                  show _ = Result.ok (Next.value (.int .i64 (r : Nat))) v
                  simp [execOp, go_sem, e45, hrem]
                · cases ho
                  have e44 : b.tmps[44]? = some (.slice (some ⟨x.1, 0, none⟩) 2 2) := hF.up 0 44 rfl (hdeps ⟨0, .data⟩ (by simp) rfl)
                  have e46 : b.tmps[46]? = some (.int .i64 (r : Nat)) := hF.up 2 46 rfl (hdeps ⟨2, .data⟩ (by simp) rfl)
                  refine QJ.quiet (x := x) hsz hC hi hF (Slots.of (by rfl)) rfl (wanted_none rfl) (show ShM wr yb cy ka ((listed.setIfInBounds 3 true).getD 0 false) ((listed.setIfInBounds 3 true).getD 6 false) ((listed.setIfInBounds 3 true).getD 8 false) x v by rw [getD_setN (show 3 ≠ 0 by decide), getD_setN (show 3 ≠ 6 by decide), getD_setN (show 3 ≠ 8 by decide)]; exact hMb) ?_
                  show _ = Result.ok (Next.value (.pointer (some ⟨x.1, r, none⟩))) v
                  simp [execOp, go_sem, e44, e46, hrz, hr0]
                · cases ho
                  have u0_0 := hdeps ⟨3, .data⟩ (by simp) rfl
                  have l0 := hC 3 _ rfl u0_0 ⟨0, .data⟩ (by simp) rfl
                  have z := hMb.kind l0 r hr2 ka HKA.out
                  have e47 : b.tmps[47]? = some (.pointer (some ⟨x.1, r, none⟩)) := hF.up 3 47 rfl (hdeps ⟨3, .data⟩ (by simp) rfl)
                  refine QJ.quiet (x := x) hsz hC hi hF (Slots.of (by rfl)) rfl (wanted_none rfl) (show ShM wr yb cy ka ((listed.setIfInBounds 4 true).getD 0 false) ((listed.setIfInBounds 4 true).getD 6 false) ((listed.setIfInBounds 4 true).getD 8 false) x v by rw [getD_setN (show 4 ≠ 0 by decide), getD_setN (show 4 ≠ 6 by decide), getD_setN (show 4 ≠ 8 by decide)]; exact hMb) ?_
                  show _ = Result.ok (Next.value (.int .i64 ka)) v
                  simp [execOp, go_sem, e47, z]
                · cases ho
                  have l8 : listed.getD 8 false = false := by
                    cases hh : listed.getD 8 false
                    · rfl
                    · have y0 := hC 8 _ rfl hh ⟨5, .phase⟩ (by simp) rfl; rw [hl1] at y0; cases y0
                  obtain ⟨⟨z0, z1, z2, z3⟩, -⟩ := four_blk (hMb.yOld l8)
                  have e9 := hF.old_is 9 (by rfl) rfl
                  refine QJ.quiet (x := x) hsz hC hi hF (Slots.of (by rfl)) rfl (wanted_none rfl) (show ShM wr yb cy ka ((listed.setIfInBounds 5 true).getD 0 false) ((listed.setIfInBounds 5 true).getD 6 false) ((listed.setIfInBounds 5 true).getD 8 false) x v by rw [getD_setN (show 5 ≠ 0 by decide), getD_setN (show 5 ≠ 6 by decide), getD_setN (show 5 ≠ 8 by decide)]; exact hMb) ?_
                  show _ = Result.ok (Next.value (.agg #[.int .i64 cy.k, .string cy.n, .slice cy.an cy.ln cy.cn, .slice cy.ak cy.lk cy.ck])) v
                  simp [execOp, go_sem, e9, z0, z1, z2, z3]
                · cases ho
                  have e49 : b.tmps[49]? = some (.agg #[.int .i64 cy.k, .string cy.n, .slice cy.an cy.ln cy.cn, .slice cy.ak cy.lk cy.ck]) := hF.up 5 49 rfl (hdeps ⟨5, .data⟩ (by simp) rfl)
                  have l7 : listed.getD 7 false = false := by
                    cases hh : listed.getD 7 false
                    · rfl
                    · have y0 := hC 7 _ rfl hh ⟨6, .data⟩ (by simp) rfl; rw [hl1] at y0; cases y0
                  have l8 : listed.getD 8 false = false := by
                    cases hh : listed.getD 8 false
                    · rfl
                    · have y0 := hC 8 _ rfl hh ⟨6, .phase⟩ (by simp) rfl; rw [hl1] at y0; cases y0
                  refine QJ.make (v' := v.alloc (.cells #[.int .i64 cy.k, .string cy.n, .slice cy.an cy.ln cy.cn, .slice cy.ak cy.lk cy.ck] 25)) (x := x) (x' := (x.1, v.heap.size)) hsz hC hi hF (Slots.of (by rfl)) rfl (wanted_none rfl) (fun q hq => match q, (show q ≠ 6 by rintro rfl; rw [hl1] at hq; cases hq), (show q ≠ 7 by rintro rfl; rw [l7] at hq; cases hq) with | 0, _, _ => rfl | 1, _, _ => rfl | 2, _, _ => rfl | 3, _, _ => rfl | 4, _, _ => rfl | 5, _, _ => rfl | 6, h, _ => absurd rfl h | 7, _, h => absurd rfl h | 8, _, _ => rfl | _ + 9, _, _ => rfl) (show ShM wr yb cy ka ((listed.setIfInBounds 6 true).getD 0 false) ((listed.setIfInBounds 6 true).getD 6 false) ((listed.setIfInBounds 6 true).getD 8 false) (x.1, v.heap.size) (v.alloc (.cells #[.int .i64 cy.k, .string cy.n, .slice cy.an cy.ln cy.cn, .slice cy.ak cy.lk cy.ck] 25)) by rw [getD_setS (by rw [hsz]; decide), getD_setN (show 6 ≠ 0 by decide), getD_setN (show 6 ≠ 8 by decide)]; exact hMb.make6 l8) ?_
                  show _ = Result.ok (Next.value (.slice (some ⟨v.heap.size, 0, none⟩) 1 1)) _
                  simp [execOp, go_sem, e49]
                · cases ho
                  have e48 : b.tmps[48]? = some (.int .i64 ka) := hF.up 4 48 rfl (hdeps ⟨4, .data⟩ (by simp) rfl)
                  have e50 : b.tmps[50]? = some (.slice (some ⟨x.2, 0, none⟩) 1 1) := hF.up 6 50 rfl (hdeps ⟨6, .data⟩ (by simp) rfl)
                  refine QJ.quiet (x := x) hsz hC hi hF (Slots.of (by rfl)) rfl (wanted_none rfl) (show ShM wr yb cy ka ((listed.setIfInBounds 7 true).getD 0 false) ((listed.setIfInBounds 7 true).getD 6 false) ((listed.setIfInBounds 7 true).getD 8 false) x v by rw [getD_setN (show 7 ≠ 0 by decide), getD_setN (show 7 ≠ 6 by decide), getD_setN (show 7 ≠ 8 by decide)]; exact hMb) ?_
                  show _ = Result.ok (Next.value (.agg #[.int .i64 ka, .string ⟨#[]⟩, .slice none 0 0, .slice (some ⟨x.2, 0, none⟩) 1 1])) v
                  simp [execOp, go_sem, e48, e50]
                · cases ho
                  have e9 := hF.old_is 9 (by rfl) rfl
                  have e51 : b.tmps[51]? = some (.agg #[.int .i64 ka, .string ⟨#[]⟩, .slice none 0 0, .slice (some ⟨x.2, 0, none⟩) 1 1]) := hF.up 7 51 rfl (hdeps ⟨7, .data⟩ (by simp) rfl)
                  obtain ⟨⟨z0, z1, z2, z3⟩, ⟨f0, f1, f2, f3⟩⟩ := four_blk (hMb.yOld hl1)
                  refine QJ.store (x := x) hsz hC hi hF (Slots.of (by rfl)) rfl rfl (wanted_none rfl) (show ShM wr yb cy ka ((listed.setIfInBounds 8 true).getD 0 false) ((listed.setIfInBounds 8 true).getD 6 false) ((listed.setIfInBounds 8 true).getD 8 false) x ((((v.setCell ⟨yb, 0, none⟩ (.int .i64 ka)).setCell ⟨yb, 1, none⟩ (.string ⟨#[]⟩)).setCell ⟨yb, 2, none⟩ (.slice none 0 0)).setCell ⟨yb, 3, none⟩ (.slice (some ⟨x.2, 0, none⟩) 1 1)) by rw [getD_setS (by rw [hsz]; decide), getD_setN (show 8 ≠ 0 by decide), getD_setN (show 8 ≠ 6 by decide)]; exact hMb.store8 hl1) ?_
                  simp [execOp, go_sem, e9, e51, z0, z1, z2, z3, f0, f1, f2, f3]
              · intro listed b W3 hJ hr'
                obtain ⟨hsz, hC, xx, hF, hM⟩ := hJ
                have hall := all_upB2 (by rfl) hsz hr'
                have hMb : ShM wr yb cy ka true true true xx W3 := by
                  have h : ShM wr yb cy ka (listed.getD 0 false) (listed.getD 6 false) (listed.getD 8 false) xx W3 := hM
                  rw [hall 0 (by decide), hall 6 (by decide), hall 8 (by decide)] at h
                  exact h
                have hb : b = putAll _ _ _ 9 := hF.done (Slots.of (by rfl)) hall
                subst hb
                simp only [putAll]
                simp [dstOf, Act.put]
                have hsw := hMb.keeps.size
                have hg := hMb.grown H.out.yv (fun g hg => ⟨hg.2, by omega⟩) (fun g => (g < W4.heap.size ∨ yb < g) ∧ g < W3.heap.size) (fun g hg => ⟨hg.1, by omega⟩) (fun g h1 h2 => ⟨.inr (by omega), h2⟩)
                have HMB := Lib.hid hMb; have HG := Lib.hid hg
                clear hM hF hC hall hr' hsz hMb hg
                have hkk : (((4 + k % 2 : Nat)) : Int) = ka := by rw [HKA.out, HR.out]; omega
                go_wp2
                go_roundw
                case rel => exact ⟨k + 1, _, by go_num, by omega, HMB.out.yNew rfl, by rw [shT, hkk]; exact HG.out, H.out.keeps.trans HMB.out.keeps (fun g e => .inl e)⟩
                case measure => simp [intOf]; omega
            · obtain rfl : n = k := by omega
              have hwr := h.keeps.size
              have hbr := h.keeps.below (B := yb) (by have := HZ7.out; omega) (by rintro g rfl; exact Nat.le_refl _)
              have hall8 : Below W4.heap.size W4 wr := HALL7.out.trans (h.keeps.below (by have := HZ7.out; omega) (by rintro g rfl; exact hyw))
              have hst8 := HSTF.out wr hbr
              obtain ⟨⟨y0, y1, y2, y3⟩, -⟩ := four_blk h.yat
              have hya := add_any (shT x n) (shT_fit HFIT.out n) (shT_short HSH.out n) wr tb rb nb mb gb m ty nu T N _ cy hst8.tab hst8.names h.yv (fun g hg => ⟨hg.2, fun ho => by have h1 := hst8.lo g ho; have h2 := HOWN.out g ho; rcases hg.1 with h3 | h3 <;> omega⟩)
              rw [HHAS.out, addK_ok (shT_ok HOK.out n) (by rw [shT_size]; have := HSZ.out; omega)] at hya
              have hfew := (shI ⟨m, HMAIN.out⟩ n).few
              have h20 := treeK_e (shT x n) T
              have hkid := fun k (hk : k < n) => shK_kid (T := T) (x := x) hk
              obtain ⟨f, hf⟩ : ∃ f : Nat → Nat, f = fun k => (treeK T (shT x k)).1 := ⟨_, rfl⟩
              have hf0 : f 0 = m := by rw [hf]; show (treeK T x).1 = m; rw [HMAIN.out]
              obtain ⟨⟨i, er, T2⟩, hq⟩ : ∃ q, treeK T (shT x n) = q := ⟨_, rfl⟩
              have hfn : f n = i := by rw [hf]; show (treeK T (shT x n)).1 = i; rw [hq]
              have hstep : er = 0 → ∀ k, k < n → T2[f (k + 1)]? = some ⟨(4 + k % 2 : Nat), [], [], [f k]⟩ := by
                intro he k hk
                have := hkid k hk (by rw [hq]; exact he)
                rw [hq] at this
                rw [hf]; exact this
              rw [hq] at hya hfew h20
              dsimp only at hya hfew h20
              have HYA := Lib.hid hya; have HFEW := Lib.hid hfew; have HF0 := Lib.hid hf0; have HFN := Lib.hid hfn; have HSTEP := Lib.hid hstep; have HST8 := Lib.hid hst8; have HALL8 := Lib.hid hall8
              have hw48 : W4.heap.size ≤ wr.heap.size := hall8.size
              clear hbr hst8 hya hfew hkid hf0 hq hfn hstep hall8 hf h
              by_cases he : er = 0
              · subst he
                clear h20
                go_upto_region 21 with (go_at_call 30; (refine HYA.out.mono ?_); rintro e w9 ⟨rb2, nb2, ty2, nu2, rfl, ha⟩; obtain ⟨s9, b9⟩ := HST8.out.add ha hw48; have hw9 := b9.size; have HS9 := Lib.hid s9; have HB9 := Lib.hid (HALL8.out.trans b9); clear ha s9 b9)
                clear y0 y1 y2 y3
                go_wp2
                go_loopw [11, 13] (fun dv kv wr => ∃ k, ShD W4 f n tb rb2 nb2 mb gb m ty2 nu2 T2 N G vs dv kv wr k) (fun _ kv _ => (intOf kv).toNat)
                case atStart => exact ⟨n, by rw [HFN.out], rfl, Nat.le_refl _, HS9.out, HB9.out⟩
                case round =>
                  obtain ⟨k, h⟩ := hrel
                  obtain rfl := h.id
                  obtain rfl := h.slot
                  have hkn := h.le
                  have hwr := h.below.size
                  by_cases hk0 : 0 < k
                  · obtain ⟨j, rfl⟩ : ∃ j, k = j + 1 := ⟨k - 1, by omega⟩
                    clear hk0
                    obtain ⟨hi, hk⟩ := List.getElem?_eq_some_iff.1 (HSTEP.out (by simp) j (by omega))
                    have CN3 := tnode_in (f (j + 1)) wr tb rb2 nb2 mb gb m ty2 nu2 T2 h.st.tab hi
                    rw [hk] at CN3
                    dsimp only at CN3
                    simp only [List.length_nil, List.length_singleton] at CN3
                    obtain ⟨K4, hK4⟩ : ∃ K4 : Nat, K4 = 4 + j % 2 := ⟨_, rfl⟩
                    rw [← hK4] at CN3
                    have HC3 := Lib.hid CN3; have H := Lib.hid h
                    clear CN3 hk hK4 h hi
                    go_upto_region 25 with (go_at_call 31; (refine HC3.out.mono ?_); rintro e u6 ⟨an, cn, ak, ck, rfl, -, r6, b6⟩; have hu6 := b6.size; have HR6 := Lib.hid r6; have HU6 := Lib.hid b6; clear b6 r6)
                    obtain ⟨g, o, rfl, hg, hcell⟩ := int1K HR6.out 0 (Nat.zero_lt_one)
                    obtain ⟨W8, hW8⟩ : ∃ W8, W8 = u6.alloc (.cells #[.int .i64 K4, .string ⟨#[]⟩, .slice an 0 cn, .slice (some ⟨g, o, none⟩) 1 ck] 64) := ⟨_, rfl⟩
                    have hb8 : Below u6.heap.size u6 W8 := by rw [hW8]; exact (Below.refl _ _).alloc (Nat.le_refl _) _
                    have hn8 : W8.heap[u6.heap.size]? = some (.cells #[.int .i64 K4, .string ⟨#[]⟩, .slice an 0 cn, .slice (some ⟨g, o, none⟩) 1 ck] 64 (0, 0)) := by rw [hW8]; exact heap_alloc_new u6 _
                    obtain ⟨⟨-, -, -, q3⟩, -⟩ := four_blk hn8
                    have hc8 : W8.cell? ⟨g, o, none⟩ = some (.int .i64 (f j : Nat)) := hcell W8 (hb8.block g hg.2)
                    have HS8 := Lib.hid ((H.out.st.below HU6.out).below hb8)
                    have HD8 := Lib.hid (H.out.below.trans ((HU6.out.trans (hb8.mono hu6)).mono hwr))
                    rw [← hW8]
                    clear hW8 hb8 hn8 hcell
                    go_wp2
                    go_roundw
                    case rel => exact ⟨j, rfl, by go_num, by omega, HS8.out, HD8.out⟩
                    case measure => simp [intOf]
                  · obtain rfl : k = 0 := by omega
                    have hb := h.below
                    have HSD := Lib.hid h.st
                    have hfz : (T2.length : Int) ≤ (T.length : Int) + (n : Int) := by have := HFEW.out; omega
                    rw [HF0.out]
                    clear h
                    go_wp2_with first
                      | (go_at_call 32; (refine (main_any _ _ _ _ _ _ _ _ _ _ HSD.out.tab).mono ?_); rintro e u1 ⟨rfl, b1⟩; have HSE := Lib.hid (HSD.out.below b1); have HE1 := Lib.hid (hb.trans (b1.mono hwr)); clear b1)
                      | (go_at_call 28; (refine (len_any _ _ _ _ _ _ _ _ _ _ HSE.out.tab).mono ?_); rintro e u2 ⟨rfl, b2⟩; have HE2 := Lib.hid (HE1.out.trans (b2.mono HE1.out.size)); clear b2)
                    go_ret
                    exact ⟨rfl, HBW4.out.trans (HE2.out.mono hw4)⟩
              · obtain rfl : er = 20 := h20.resolve_left he
                clear h20 he
                go_wp2_with (go_at_call 30; (refine HYA.out.mono ?_); rintro e w9 ⟨rb2, nb2, ty2, nu2, rfl, ha⟩; obtain ⟨s9, b9⟩ := HST8.out.add ha hw48; have HB9 := Lib.hid (HALL8.out.trans b9); clear ha s9 b9)
                go_ret
                exact ⟨rfl, HBW4.out.trans (HB9.out.mono hw4)⟩
        · have t0 : ((pe : Nat) == (0 : Int)) = false := by simp; omega
          have hne : (pe : Int) ≠ 0 := by omega
          go_wp2_with (go_at_call 22; (refine HCN2.out.mono ?_); rintro e w5 ⟨⟨-, k2⟩, x5⟩; obtain rfl := k2 hp0; have HX5 := Lib.hid x5; clear k2 x5)
          go_ret
          exact ⟨rfl, HBW4.out.trans (HX5.out.mono hw4)⟩
      · have hcn := HCN.out
        rw [if_pos hE0] at hcn
        have HCN2 := Lib.hid hcn
        have t0 : ((E : Nat) == (0 : Int)) = false := by simp; omega
        have hne : (E : Int) ≠ 0 := by omega
        clear hcn HCN
        go_wp2_with (go_at_call 22; (refine HCN2.out.mono ?_); rintro e w5 ⟨⟨-, k2⟩, x5⟩; obtain rfl := k2 hE0; have HX5 := Lib.hid x5; clear k2 x5)
        go_ret
        exact ⟨rfl, HBW4.out.trans (HX5.out.mono hw4)⟩
end Sp
end Go.Proofs.Ytmhihnpimanhfaa
