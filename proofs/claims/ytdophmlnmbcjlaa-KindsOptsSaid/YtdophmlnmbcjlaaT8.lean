/- oneType and all: a type and what lies within it. Written by gen_zone.py. -/
import Derived.Test.YtdophmlnmbcjlaaT6
import Derived.Test.YtdophmlnmbcjlaaT7
namespace Go.Proofs.Ytdophmlnmbcjlaa
open Go.RowKit
namespace Sp
open Sc
/-- The checker's block: the map, how many types were gone through. -/
def CkE (w : World) (cb mb n : Nat) : Prop := w.heap[cb]? = some (.cells #[.map (some mb), .int .i64 n] 111 (0, 0))
theorem CkE.lt {w : World} {cb mb n : Nat} (h : CkE w cb mb n) : cb < w.heap.size := (Array.getElem?_eq_some_iff.1 h).1
theorem CkE.below {w w' : World} {cb mb n : Nat} (h : CkE w cb mb n) (hb : Below w.heap.size w w') : CkE w' cb mb n := (hb.block cb h.lt).trans h
/-- A type is gone through as oneZ says. -/
def OneP (cb mb : Nat) (l : List (List UInt8 × C4)) (S : Nat → Prop) (t : Tz) : Prop :=
  ∀ (d n : Nat) (w : World) (c : C4), d ≤ 13 → n ≤ 400 → TzV w S t c → CkE w cb mb n → MapV w mb l →
    Calls Try.prog 68 #[.pointer (some ⟨cb, 0, none⟩), c.val, .int .i64 d] w fun e w' =>
      e = .returned (.int .i64 (oneZ (hasZ l) d n t).1) ∧ CkE w' cb mb (oneZ (hasZ l) d n t).2 ∧ Only cb w w'
mutual
theorem oneZ_le (has : List UInt8 → Bool) : ∀ (t : Tz) (d n : Nat), n ≤ 400 → (oneZ has d n t).1 = 0 → (oneZ has d n t).2 ≤ 400
  | .mk k nm ns ks, d, n, hn, h0 => by
    unfold oneZ at h0 ⊢
    split
    · rename_i h; rw [if_pos h] at h0; cases h0
    · rename_i h
      rw [if_neg h] at h0
      split
      · rename_i h; rw [if_pos h] at h0; cases h0
      · rename_i h2
        rw [if_neg h2] at h0
        split
        · rename_i h3; rw [if_pos h3] at h0; exact absurd h0 h3
        · rename_i h3; rw [if_neg h3] at h0; exact allZ_le has ks (d + 1) (n + 1) (by omega) h0
theorem allZ_le (has : List UInt8 → Bool) : ∀ (ks : List Tz) (d n : Nat), n ≤ 400 → (allZ has d n ks).1 = 0 → (allZ has d n ks).2 ≤ 400
  | [], _, _, hn, _ => hn
  | t :: ks, d, n, hn, h0 => by
    unfold allZ at h0 ⊢
    split
    · rename_i h; rw [if_pos h] at h0; exact allZ_le has ks d _ (oneZ_le has t d n hn h) h0
    · rename_i h; rw [if_neg h] at h0; exact absurd h0 h
end
theorem four_at {w : World} {wb : Nat} {S : Nat → Prop} {a : Option Addr} {us : List C4} (h : RowV w S a 4 (us.map C4.cells)) (hS : ∀ g, S g → g < wb) (j : Nat) (hj : j < us.length) :
    ∃ g o, a = some ⟨g, o, none⟩ ∧ g < wb ∧ ∀ W : World, (∀ k, k < wb → W.heap[k]? = w.heap[k]?) → W.cell? ⟨g, o + j * 4, none⟩ = some (.int .i64 us[j].k) ∧ W.cell? ⟨g, o + j * 4 + 1, none⟩ = some (.string us[j].n) ∧
      W.cell? ⟨g, o + j * 4 + 2, none⟩ = some (.slice us[j].an us[j].ln us[j].cn) ∧ W.cell? ⟨g, o + j * 4 + 3, none⟩ = some (.slice us[j].ak us[j].lk us[j].ck) := by
  rcases h with h | ⟨g, o, ha, hg, hc⟩
  · rw [List.map_eq_nil_iff.1 h] at hj; exact absurd hj (by simp)
  · refine ⟨g, o, ha, hS g hg, fun W hW => ?_⟩
    have := fun i v hv => (World.cell?_of_block (a := ⟨g, o + j * 4 + i, none⟩) (hW g (hS g hg))).trans (hc j (by rw [List.length_map]; exact hj) i v (by rw [List.getElem_map]; exact hv))
    exact ⟨this 0 _ rfl, this 1 _ rfl, this 2 _ rfl, this 3 _ rfl⟩
set_option maxRecDepth 100000 in
set_option maxHeartbeats 8000000 in
theorem all_any (cb mb : Nat) (l : List (List UInt8 × C4)) (S : Nat → Prop) (ks : List Tz) (us : List C4) (ak : Option Addr) (ck d n : Nat) (w : World) (hS : ∀ g, S g → g < cb) (hm : mb ≠ cb)
    (hd : d ≤ 13) (hn : n ≤ 400) (hlen : us.length = ks.length) (hkl : ks.length ≤ maxLen) (hk : RowV w S ak 4 (us.map C4.cells)) (hu : ∀ i (h : i < ks.length) (h' : i < us.length), TzV w S ks[i] us[i]) (hC : CkE w cb mb n) (hM : MapV w mb l)
    (IH : ∀ i (h : i < ks.length), OneP cb mb l S ks[i]) :
    Calls Try.prog 90 #[.pointer (some ⟨cb, 0, none⟩), .slice ak ks.length ck, .int .i64 d] w fun e w' =>
      e = .returned (.int .i64 (allZ (hasZ l) d n ks).1) ∧ CkE w' cb mb (allZ (hasZ l) d n ks).2 ∧ Only cb w w' := by
  have hcb := hC.lt
  unfold maxLen at hkl
  obtain ⟨v, hv⟩ : ∃ v, v = allZ (hasZ l) d n ks := ⟨_, rfl⟩
  rw [← hv]
  have HV := Lib.hid hv; have HS := Lib.hid hS; have HC := Lib.hid hC; have HM := Lib.hid hM; have HK := Lib.hid hk; have HU := Lib.hid hu; have HI := Lib.hid IH; have HNE := Lib.hid hm; have HD := Lib.hid hd; have HN := Lib.hid hn
  clear hv hS hC hM hk hu IH hm
  go_enter Try.func90, Try.ntmps90
  go_wp2
  go_loopw [12] (fun iv wr => ∃ j m, j ≤ ks.length ∧ m ≤ 400 ∧ iv = .int .i64 j ∧ Hid (allZ (hasZ l) d n ks = allZ (hasZ l) d m (ks.drop j)) ∧ Hid (CkE wr cb mb m) ∧ Hid (Only cb w wr)) (fun iv _ => ks.length - (intOf iv).toNat)
  case atStart => exact ⟨0, n, Nat.zero_le _, HN.out, rfl, rfl, HC, Only.refl _ _⟩
  case round =>
    obtain ⟨j, m, hj, hm4, rfl, hq, hCk, hO⟩ := hrel
    have hws := hO.out.size
    by_cases hlt : j < ks.length
    · have hlu : j < us.length := by omega
      obtain ⟨g, o, rfl, hg, hc⟩ := four_at HK.out HS.out j hlu
      obtain ⟨c0, c1, c2, c3⟩ := hc wr (fun k hk => hO.out.block k (by omega) (fun e => by cases e; omega))
      have hT := (HU.out j hlt hlu).only HS.out (by omega) hO.out
      have hMr : MapV wr mb l := HM.out.keep hO.out (fun e => HNE.out (by cases e; rfl))
      have hdr : ks.drop j = ks[j] :: ks.drop (j + 1) := List.drop_eq_getElem_cons hlt
      have hstep : allZ (hasZ l) d m (ks.drop j) = if (oneZ (hasZ l) d m ks[j]).1 = 0 then allZ (hasZ l) d (oneZ (hasZ l) d m ks[j]).2 (ks.drop (j + 1)) else oneZ (hasZ l) d m ks[j] := by rw [hdr]; rfl
      have hq2 := hq.out
      rw [hstep] at hq2
      have HQ := Lib.hid hq2
      have hI := HI.out j hlt
      have hle := oneZ_le (hasZ l) ks[j] d m hm4
      have hjz : (j : Int) < (ks.length : Int) := by omega
      clear hc hdr hstep hq2 hq
      generalize ks[j] = t at *
      generalize us[j] = x at *
      obtain ⟨x1, x2, x3, x4, x5, x6, x7, x8⟩ := x
      dsimp only at *
      obtain ⟨W1, hW1⟩ : ∃ W1, W1 = wr.alloc (.cells #[.int .i64 x1, .string x2, .slice x3 x4 x5, .slice x6 x7 x8] 30) := ⟨_, rfl⟩
      have hBB : Below wr.heap.size wr W1 := by rw [hW1]; exact (Below.refl _ _).alloc (Nat.le_refl _) _
      have hC1 := hI d m W1 ⟨x1, x2, x3, x4, x5, x6, x7, x8⟩ HD.out hm4 (hT.later (fun g hg => by have := HS.out g hg; omega) hBB) (hCk.out.below hBB) (hMr.below hBB)
      unfold C4.val at hC1
      dsimp only at hC1
      have hOW := hO.out.trans (Only.of_below hBB)
      have HOW := Lib.hid hOW
      have HLE := Lib.hid hle
      have HC1 := Lib.hid hC1
      clear hI hT hMr hBB hC1 hOW hle
      subst hW1
      generalize oneZ (hasZ l) d m t = q at *
      obtain ⟨q1, q2⟩ := q
      dsimp only at *
      by_cases h0 : q1 = 0
      · subst h0
        rw [if_pos rfl] at HQ
        go_wp2_with (go_at_call 68; (with_reducible refine HC1.out.mono ?_); rintro e w1 ⟨rfl, k1, o1⟩; have K1 := Lib.hid k1; have O1 := Lib.hid o1; clear k1 o1)
        go_roundw
        case rel => exact ⟨j + 1, q2, by omega, HLE.out (by trivial), by go_num, HQ, K1, HOW.out.trans O1.out⟩
        case measure => simp [intOf]; omega
      · rw [if_neg h0] at HQ
        have hne : (q1 : Int) ≠ 0 := by omega
        have t0 : ((q1 : Nat) == (0 : Int)) = false := by simp; omega
        go_wp2_with (go_at_call 68; (with_reducible refine HC1.out.mono ?_); rintro e w1 ⟨rfl, k1, o1⟩; have K1 := Lib.hid k1; have O1 := Lib.hid o1; clear k1 o1)
        go_ret
        have hx : v = (q1, q2) := by rw [HV.out, HQ.out]
        rw [hx]
        exact ⟨rfl, K1.out, HOW.out.trans O1.out⟩
    · have hjn : j = ks.length := by omega
      subst hjn
      have hz := hq.out
      rw [List.drop_length] at hz
      have HZ := Lib.hid (show allZ (hasZ l) d n ks = (0, m) from hz)
      clear hz hq
      go_wp2
      go_ret
      have hx : v = (0, m) := by rw [HV.out, HZ.out]
      rw [hx]
      exact ⟨rfl, hCk.out, hO.out⟩
set_option maxRecDepth 100000 in
set_option maxHeartbeats 16000000 in
theorem oneType_any (cb mb : Nat) (l : List (List UInt8 × C4)) (S : Nat → Prop) (hS : ∀ g, S g → g < cb) (hm : mb ≠ cb) (k : Int) (nm : List UInt8) (ns : List (List UInt8)) (ks : List Tz) (hf : fitZ (.mk k nm ns ks) = true)
    (IH : ∀ i (h : i < ks.length), OneP cb mb l S ks[i]) : OneP cb mb l S (.mk k nm ns ks) := by
  intro d n w c hd hn hV hC hM
  obtain ⟨f1, f2, f3, f4, f5⟩ := fitZ_mk hf
  have hcb := hC.lt
  cases hV with
  | mk _ _ _ _ an cn ak ck us hl hnr hkr hu =>
  unfold C4.val
  dsimp only
  obtain ⟨v, hv⟩ : ∃ v, v = oneZ (hasZ l) d n (.mk k nm ns ks) := ⟨_, rfl⟩
  rw [← hv]
  unfold oneZ at hv
  -- the world behind the count and the box
  obtain ⟨⟨s0, s1⟩, ⟨z0, z1⟩⟩ := two_blk hC
  have q0 : (w.alloc (.cells #[.int .i64 k, .string ⟨nm.toArray⟩, .slice an ns.length cn, .slice ak ks.length ck] 30)).cell? ⟨cb, 1, none⟩ = some (.int .i64 n) := (((Below.refl w.heap.size w).alloc (Nat.le_refl _) _).cell (p := ⟨cb, 1, none⟩) hcb).trans s1
  have q1 : (w.alloc (.cells #[.int .i64 k, .string ⟨nm.toArray⟩, .slice an ns.length cn, .slice ak ks.length ck] 30)).frozen? ⟨cb, 1, none⟩ = false := (two_blk (hC.below ((Below.refl _ _).alloc (Nat.le_refl _) _))).2.2
  obtain ⟨WS, hWS⟩ : ∃ WS, WS = w.setCell ⟨cb, 1, none⟩ (.int .i64 ((n : Int) + 1)) := ⟨_, rfl⟩
  have hCS : CkE WS cb mb (n + 1) := by rw [hWS]; exact set_two1 hC _
  have hOS : Only cb w WS := by rw [hWS]; exact (Only.refl cb w).setCell 1 _
  have hsS : WS.heap.size = w.heap.size := by rw [hWS]; simp [World.setCell]
  obtain ⟨W1, hW1⟩ : ∃ W1, W1 = WS.alloc (.cells #[.int .i64 k, .string ⟨nm.toArray⟩, .slice an ns.length cn, .slice ak ks.length ck] 30) := ⟨_, rfl⟩
  have hs1 : W1.heap.size = w.heap.size + 1 := by rw [hW1]; simp [hsS]
  have hB1 : Below WS.heap.size WS W1 := by rw [hW1]; exact (Below.refl _ _).alloc (Nat.le_refl _) _
  have hx1 : W1.heap[w.heap.size]? = some (.cells #[.int .i64 k, .string ⟨nm.toArray⟩, .slice an ns.length cn, .slice ak ks.length ck] 30 (0, 0)) := by rw [hW1, ← hsS]; exact heap_alloc_new WS _
  have hC1 : CkE W1 cb mb (n + 1) := hCS.below hB1
  have hO1 : Only cb w W1 := hOS.trans (Only.of_below hB1)
  obtain ⟨⟨e0, e1⟩, _⟩ := two_blk hC1
  obtain ⟨⟨p0, p1, p2, p3⟩, _⟩ := four_blk hx1
  have kb : ∀ W, Below W1.heap.size W1 W → ∀ g, g < cb → W.heap[g]? = w.heap[g]? := fun W hB g hg => (hB.block g (by omega)).trans (hO1.block g (by omega) (fun e => by cases e; omega))
  have hM1 : MapV W1 mb l := hM.keep hO1 (fun e => hm (by cases e; rfl))
  have CF := fun W => formed_any k nm ns ks.length an ak cn ck W f2 f4
  have CH := fun W (hB : Below W1.heap.size W1 W) => has_any W mb l nm (hM1.below hB) f1
  have CN := fun W (hB : Below W1.heap.size W1 W) => fieldNames_any k nm ns an ak cn ks.length ck W S (hnr.keep (fun _ h => h) (fun g hg => kb W hB g (hS g hg))) (fun g hg => by have h1 := hS g hg; have h2 := hB.size; omega) f3 f2
  have CA := fun W (hB : Below W1.heap.size W1 W) (h12 : d ≤ 12) (h400 : n + 1 ≤ 400) => all_any cb mb l S ks us ak ck (d + 1) (n + 1) W hS hm (by omega) h400 hl f4 (hkr.keep (fun _ h => h) (fun g hg => kb W hB g (hS g hg))) (fun i h h' => (hu i h h').keep (fun _ h => h) (fun g hg => kb W hB g (hS g hg))) (hC1.below hB) (hM1.below hB) IH
  have hnz : (n : Int) + 1 ≤ 401 := by omega
  have hn0 : (0 : Int) ≤ (n : Int) + 1 := by omega
  have hdz : (d : Int) ≤ 13 := by omega
  have HC1 := Lib.hid hC1; have HO1 := Lib.hid hO1; have HX1 := Lib.hid hx1; have HCF := Lib.hid CF; have HCH := Lib.hid CH; have HCN := Lib.hid CN; have HCA := Lib.hid CA; have HS1 := Lib.hid hs1
  have hcw : cb ≠ w.heap.size := by omega
  clear hC hM hnr hkr hu IH hf f1 f2 f3 f4 f5 hl hC1 hO1 hx1 kb hM1 CF CH CN CA hS hm hs1 hCS hOS hsS hB1
  have HW1 := Lib.hid hW1; have HWS := Lib.hid hWS
  rw [hWS] at hW1
  rw [hW1] at e0 e1 p0 p1 p2 p3
  clear hWS hW1
  by_cases h400 : 400 < n + 1
  · rw [if_pos h400] at hv
    have h4z : 400 < (n : Int) + 1 := by omega
    subst hv
    go_enter Try.func68, Try.ntmps68
    go_wp2
    go_ret
    rw [← HWS.out, ← HW1.out]
    exact ⟨rfl, HC1.out, HO1.out⟩
  · rw [if_neg h400] at hv
    have h4z : ¬ 400 < (n : Int) + 1 := by omega
    by_cases h12 : 12 < d
    · rw [if_pos h12] at hv
      have h12z : 12 < (d : Int) := by omega
      subst hv
      go_enter Try.func68, Try.ntmps68
      go_wp2
      go_ret
      rw [← HWS.out, ← HW1.out]
      exact ⟨rfl, HC1.out, HO1.out⟩
    · rw [if_neg h12] at hv
      have h12z : ¬ 12 < (d : Int) := by omega
      have hoe : ownE (hasZ l) k nm ns ks.length = if k < 1 ∨ 9 < k then 1 else if formB k nm ns ks.length = false then 12 else if k = 9 ∧ hasZ l nm = false then 15 else fieldE k ns := rfl
      obtain ⟨oe, hoeq⟩ : ∃ oe, oe = ownE (hasZ l) k nm ns ks.length := ⟨_, rfl⟩
      rw [← hoeq] at hv
      rw [hoe] at hoeq
      clear hoe
      by_cases hk1 : k < 1
      · rw [if_pos (Or.inl hk1)] at hoeq; rw [hoeq, if_pos (by decide)] at hv
        subst hv
        go_enter Try.func68, Try.ntmps68
        go_wp2
        go_ret
        rw [← HWS.out, ← HW1.out]
        exact ⟨rfl, HC1.out, HO1.out⟩
      · by_cases hk9 : 9 < k
        · rw [if_pos (Or.inr hk9)] at hoeq; rw [hoeq, if_pos (by decide)] at hv
          subst hv
          go_enter Try.func68, Try.ntmps68
          go_wp2
          go_ret
          rw [← HWS.out, ← HW1.out]
          exact ⟨rfl, HC1.out, HO1.out⟩
        · rw [if_neg (fun h => h.elim hk1 hk9)] at hoeq
          have B11 := Lib.hid (Below.refl W1.heap.size W1)
          by_cases hfb : formB k nm ns ks.length = false
          · rw [if_pos hfb] at hoeq; rw [hoeq, if_pos (by decide)] at hv
            have CF2 := HCF.out
            simp only [hfb] at CF2
            have HCF2 := Lib.hid CF2
            subst hv
            clear CF2 hfb
            go_enter Try.func68, Try.ntmps68
            go_wp2_with fail
            rw [← HWS.out, ← HW1.out]
            rw [← HWS.out, ← HW1.out] at e0 e1 p0 p1 p2 p3
            go_wp2_with (go_at_call 87; (with_reducible refine (HCF2.out _).mono ?_); rintro e w2 ⟨rfl, b2⟩; clear e0 e1 p0 p1 p2 p3; obtain ⟨⟨e0, e1⟩, _⟩ := two_blk (HC1.out.below b2); obtain ⟨⟨p0, p1, p2, p3⟩, _⟩ := four_blk ((b2.block w.heap.size (by rw [HS1.out]; omega)).trans HX1.out); have HC2 := Lib.hid (HC1.out.below b2); have HB2 := Lib.hid b2; clear b2)
            go_ret
            exact ⟨rfl, HC2.out, HO1.out.trans (Only.of_below HB2.out)⟩
          · have hfb2 : formB k nm ns ks.length = true := by simpa using hfb
            rw [if_neg hfb] at hoeq
            have CF2 := HCF.out
            simp only [hfb2] at CF2
            have HCF2 := Lib.hid CF2
            clear CF2 hfb hfb2
            by_cases k9 : k = 9
            · subst k9
              cases hhas : hasZ l nm
              · rw [hhas, if_pos ⟨rfl, rfl⟩] at hoeq; rw [hoeq, if_pos (by decide)] at hv
                have CH2 := HCH.out
                simp only [hhas] at CH2
                have HCH2 := Lib.hid CH2
                subst hv
                clear CH2 hhas
                go_enter Try.func68, Try.ntmps68
                go_wp2_with fail
                rw [← HWS.out, ← HW1.out]
                rw [← HWS.out, ← HW1.out] at e0 e1 p0 p1 p2 p3
                go_wp2_with (go_at_call 87; (with_reducible refine (HCF2.out _).mono ?_); rintro e w2 ⟨rfl, b2⟩; clear e0 e1 p0 p1 p2 p3; obtain ⟨⟨e0, e1⟩, _⟩ := two_blk (HC1.out.below b2); obtain ⟨⟨p0, p1, p2, p3⟩, _⟩ := four_blk ((b2.block w.heap.size (by rw [HS1.out]; omega)).trans HX1.out); have HC2 := Lib.hid (HC1.out.below b2); have HB2 := Lib.hid b2; clear b2)
                have hws2 := HB2.out.size
                rw [HS1.out] at hws2
                have hcb2 : cb < w2.drew.heap.size := by show cb < w2.heap.size; omega
                have hwb2 : w.heap.size < w2.drew.heap.size := by show w.heap.size < w2.heap.size; omega
                have hBd := HB2.out.drew
                have HBD := Lib.hid hBd
                have p0d : w2.drew.cell? ⟨w.heap.size, 0, none⟩ = some (.int .i64 9) := p0
                have p1d : w2.drew.cell? ⟨w.heap.size, 1, none⟩ = some (.string ⟨nm.toArray⟩) := p1
                have e0d : w2.drew.cell? ⟨cb, 0, none⟩ = some (.map (some mb)) := e0
                clear hBd p2 p3 e1
                go_region_held3 (fun w' => w'.cell? ⟨w.heap.size, 0, none⟩ = some (.int .i64 9) ∧ w'.cell? ⟨w.heap.size, 1, none⟩ = some (.string ⟨nm.toArray⟩) ∧ w'.cell? ⟨cb, 0, none⟩ = some (.map (some mb))) (go_keep) (first
                  | (go_at_call 88; (refine (HCH2.out _ HBD.out).mono ?_); rintro e w3 ⟨rfl, b3⟩; have n1 := (b3.cell (p := ⟨w.heap.size, 0, none⟩) hwb2).trans p0d; have n2 := (b3.cell (p := ⟨w.heap.size, 1, none⟩) hwb2).trans p1d; have n3 := (b3.cell (p := ⟨cb, 0, none⟩) hcb2).trans e0d))
                all_goals
                  clear n1 n2 n3 p0 p1 e0 p0d p1d e0d
                  have HB3 := Lib.hid (HBD.out.trans (b3.mono HBD.out.size))
                  have HC3 := Lib.hid (HC1.out.below HB3.out)
                  obtain ⟨⟨p0, p1, p2, p3⟩, _⟩ := four_blk ((HB3.out.block w.heap.size (by rw [HS1.out]; omega)).trans HX1.out)
                  clear b3
                all_goals
                  go_wp2
                  go_ret
                  exact ⟨rfl, HC3.out, HO1.out.trans (Only.of_below HB3.out)⟩
              · rw [hhas, if_neg (fun h => by cases h.2)] at hoeq; rw [hoeq] at hv
                have CH2 := HCH.out
                simp only [hhas] at CH2
                have HCH2 := Lib.hid CH2
                clear CH2 hhas
                by_cases hfe : fieldE 9 ns = 0
                · rw [hfe, if_neg (by decide)] at hv
                  have CN2 := HCN.out
                  simp only [hfe] at CN2
                  have HCN2 := Lib.hid CN2
                  clear CN2 hfe
                  go_enter Try.func68, Try.ntmps68
                  go_wp2_with fail
                  rw [← HWS.out, ← HW1.out]
                  rw [← HWS.out, ← HW1.out] at e0 e1 p0 p1 p2 p3
                  go_wp2_with (go_at_call 87; (with_reducible refine (HCF2.out _).mono ?_); rintro e w2 ⟨rfl, b2⟩; clear e0 e1 p0 p1 p2 p3; obtain ⟨⟨e0, e1⟩, _⟩ := two_blk (HC1.out.below b2); obtain ⟨⟨p0, p1, p2, p3⟩, _⟩ := four_blk ((b2.block w.heap.size (by rw [HS1.out]; omega)).trans HX1.out); have HC2 := Lib.hid (HC1.out.below b2); have HB2 := Lib.hid b2; clear b2)
                  have hws2 := HB2.out.size
                  rw [HS1.out] at hws2
                  have hcb2 : cb < w2.drew.heap.size := by show cb < w2.heap.size; omega
                  have hwb2 : w.heap.size < w2.drew.heap.size := by show w.heap.size < w2.heap.size; omega
                  have hBd := HB2.out.drew
                  have HBD := Lib.hid hBd
                  have p0d : w2.drew.cell? ⟨w.heap.size, 0, none⟩ = some (.int .i64 9) := p0
                  have p1d : w2.drew.cell? ⟨w.heap.size, 1, none⟩ = some (.string ⟨nm.toArray⟩) := p1
                  have e0d : w2.drew.cell? ⟨cb, 0, none⟩ = some (.map (some mb)) := e0
                  clear hBd p2 p3 e1
                  go_region_held3 (fun w' => w'.cell? ⟨w.heap.size, 0, none⟩ = some (.int .i64 9) ∧ w'.cell? ⟨w.heap.size, 1, none⟩ = some (.string ⟨nm.toArray⟩) ∧ w'.cell? ⟨cb, 0, none⟩ = some (.map (some mb))) (go_keep) (first
                    | (go_at_call 88; (refine (HCH2.out _ HBD.out).mono ?_); rintro e w3 ⟨rfl, b3⟩; have n1 := (b3.cell (p := ⟨w.heap.size, 0, none⟩) hwb2).trans p0d; have n2 := (b3.cell (p := ⟨w.heap.size, 1, none⟩) hwb2).trans p1d; have n3 := (b3.cell (p := ⟨cb, 0, none⟩) hcb2).trans e0d))
                  all_goals
                    clear n1 n2 n3 p0 p1 e0 p0d p1d e0d
                    have HB3 := Lib.hid (HBD.out.trans (b3.mono HBD.out.size))
                    have HC3 := Lib.hid (HC1.out.below HB3.out)
                    obtain ⟨⟨p0, p1, p2, p3⟩, _⟩ := four_blk ((HB3.out.block w.heap.size (by rw [HS1.out]; omega)).trans HX1.out)
                    clear b3
                  all_goals
                    go_wp2_with (first
                      | (go_at_call 89; (refine (HCN2.out _ HB3.out).mono ?_); rintro e w4 ⟨rfl, b4⟩; have HB4 := Lib.hid (HB3.out.trans (b4.mono HB3.out.size)); clear b4 p0 p1 p2 p3; obtain ⟨⟨p0, p1, p2, p3⟩, _⟩ := four_blk ((HB4.out.block w.heap.size (by rw [HS1.out]; omega)).trans HX1.out))
                      | (go_at_call 90; (refine (HCA.out _ HB4.out (by omega) (by omega)).mono ?_); rintro e w5 ⟨rfl, k5, o5⟩; have HC5 := Lib.hid k5; have HO5 := Lib.hid o5; clear k5 o5))
                    go_ret
                    subst hv
                    exact ⟨rfl, HC5.out, (HO1.out.trans (Only.of_below HB4.out)).trans HO5.out⟩
                · rw [if_pos hfe] at hv
                  have hne : (fieldE 9 ns : Int) ≠ 0 := by omega
                  have t0 : ((fieldE 9 ns : Nat) == (0 : Int)) = false := by simp; omega
                  generalize fieldE 9 ns = fe at *
                  subst hv
                  go_enter Try.func68, Try.ntmps68
                  go_wp2_with fail
                  rw [← HWS.out, ← HW1.out]
                  rw [← HWS.out, ← HW1.out] at e0 e1 p0 p1 p2 p3
                  go_wp2_with (go_at_call 87; (with_reducible refine (HCF2.out _).mono ?_); rintro e w2 ⟨rfl, b2⟩; clear e0 e1 p0 p1 p2 p3; obtain ⟨⟨e0, e1⟩, _⟩ := two_blk (HC1.out.below b2); obtain ⟨⟨p0, p1, p2, p3⟩, _⟩ := four_blk ((b2.block w.heap.size (by rw [HS1.out]; omega)).trans HX1.out); have HC2 := Lib.hid (HC1.out.below b2); have HB2 := Lib.hid b2; clear b2)
                  have hws2 := HB2.out.size
                  rw [HS1.out] at hws2
                  have hcb2 : cb < w2.drew.heap.size := by show cb < w2.heap.size; omega
                  have hwb2 : w.heap.size < w2.drew.heap.size := by show w.heap.size < w2.heap.size; omega
                  have hBd := HB2.out.drew
                  have HBD := Lib.hid hBd
                  have p0d : w2.drew.cell? ⟨w.heap.size, 0, none⟩ = some (.int .i64 9) := p0
                  have p1d : w2.drew.cell? ⟨w.heap.size, 1, none⟩ = some (.string ⟨nm.toArray⟩) := p1
                  have e0d : w2.drew.cell? ⟨cb, 0, none⟩ = some (.map (some mb)) := e0
                  clear hBd p2 p3 e1
                  go_region_held3 (fun w' => w'.cell? ⟨w.heap.size, 0, none⟩ = some (.int .i64 9) ∧ w'.cell? ⟨w.heap.size, 1, none⟩ = some (.string ⟨nm.toArray⟩) ∧ w'.cell? ⟨cb, 0, none⟩ = some (.map (some mb))) (go_keep) (first
                    | (go_at_call 88; (refine (HCH2.out _ HBD.out).mono ?_); rintro e w3 ⟨rfl, b3⟩; have n1 := (b3.cell (p := ⟨w.heap.size, 0, none⟩) hwb2).trans p0d; have n2 := (b3.cell (p := ⟨w.heap.size, 1, none⟩) hwb2).trans p1d; have n3 := (b3.cell (p := ⟨cb, 0, none⟩) hcb2).trans e0d))
                  all_goals
                    clear n1 n2 n3 p0 p1 e0 p0d p1d e0d
                    have HB3 := Lib.hid (HBD.out.trans (b3.mono HBD.out.size))
                    have HC3 := Lib.hid (HC1.out.below HB3.out)
                    obtain ⟨⟨p0, p1, p2, p3⟩, _⟩ := four_blk ((HB3.out.block w.heap.size (by rw [HS1.out]; omega)).trans HX1.out)
                    clear b3
                  all_goals
                    go_wp2_with ((go_at_call 89; (refine (HCN.out _ HB3.out).mono ?_); rintro e w4 ⟨rfl, b4⟩; have HB4 := Lib.hid (HB3.out.trans (b4.mono HB3.out.size)); clear b4 p0 p1 p2 p3; obtain ⟨⟨p0, p1, p2, p3⟩, _⟩ := four_blk ((HB4.out.block w.heap.size (by rw [HS1.out]; omega)).trans HX1.out)))
                    go_ret
                    exact ⟨rfl, HC1.out.below HB4.out, HO1.out.trans (Only.of_below HB4.out)⟩
            · rw [if_neg (fun h => k9 h.1)] at hoeq; rw [hoeq] at hv
              have t9 : (k == 9) = false := by simpa using k9
              have t9d : decide (k = 9) = false := by simpa using k9
              clear k9
              by_cases hfe : fieldE k ns = 0
              · rw [hfe, if_neg (by decide)] at hv
                have CN2 := HCN.out
                simp only [hfe] at CN2
                have HCN2 := Lib.hid CN2
                clear CN2 hfe
                go_enter Try.func68, Try.ntmps68
                go_wp2_with fail
                rw [← HWS.out, ← HW1.out]
                rw [← HWS.out, ← HW1.out] at e0 e1 p0 p1 p2 p3
                go_wp2_with (go_at_call 87; (with_reducible refine (HCF2.out _).mono ?_); rintro e w2 ⟨rfl, b2⟩; clear e0 e1 p0 p1 p2 p3; obtain ⟨⟨e0, e1⟩, _⟩ := two_blk (HC1.out.below b2); obtain ⟨⟨p0, p1, p2, p3⟩, _⟩ := four_blk ((b2.block w.heap.size (by rw [HS1.out]; omega)).trans HX1.out); have HC2 := Lib.hid (HC1.out.below b2); have HB2 := Lib.hid b2; clear b2)
                clear p1 p2 p3 e0 e1
                go_quiet (fail)
                all_goals
                  have HB3 := Lib.hid (show Below W1.heap.size W1 (w2.drewN nq) from ⟨HB2.out.os, HB2.out.tape, HB2.out.output, HB2.out.size, HB2.out.block⟩)
                  clear p0
                  generalize w2.drewN nq = w3 at *
                  have HC3 := Lib.hid (HC1.out.below HB3.out)
                  obtain ⟨⟨p0, p1, p2, p3⟩, _⟩ := four_blk ((HB3.out.block w.heap.size (by rw [HS1.out]; omega)).trans HX1.out)
                all_goals
                  go_wp2_with (first
                    | (go_at_call 89; (refine (HCN2.out _ HB3.out).mono ?_); rintro e w4 ⟨rfl, b4⟩; have HB4 := Lib.hid (HB3.out.trans (b4.mono HB3.out.size)); clear b4 p0 p1 p2 p3; obtain ⟨⟨p0, p1, p2, p3⟩, _⟩ := four_blk ((HB4.out.block w.heap.size (by rw [HS1.out]; omega)).trans HX1.out))
                    | (go_at_call 90; (refine (HCA.out _ HB4.out (by omega) (by omega)).mono ?_); rintro e w5 ⟨rfl, k5, o5⟩; have HC5 := Lib.hid k5; have HO5 := Lib.hid o5; clear k5 o5))
                  go_ret
                  subst hv
                  exact ⟨rfl, HC5.out, (HO1.out.trans (Only.of_below HB4.out)).trans HO5.out⟩
              · rw [if_pos hfe] at hv
                have hne : (fieldE k ns : Int) ≠ 0 := by omega
                have t0 : ((fieldE k ns : Nat) == (0 : Int)) = false := by simp; omega
                generalize fieldE k ns = fe at *
                subst hv
                go_enter Try.func68, Try.ntmps68
                go_wp2_with fail
                rw [← HWS.out, ← HW1.out]
                rw [← HWS.out, ← HW1.out] at e0 e1 p0 p1 p2 p3
                go_wp2_with (go_at_call 87; (with_reducible refine (HCF2.out _).mono ?_); rintro e w2 ⟨rfl, b2⟩; clear e0 e1 p0 p1 p2 p3; obtain ⟨⟨e0, e1⟩, _⟩ := two_blk (HC1.out.below b2); obtain ⟨⟨p0, p1, p2, p3⟩, _⟩ := four_blk ((b2.block w.heap.size (by rw [HS1.out]; omega)).trans HX1.out); have HC2 := Lib.hid (HC1.out.below b2); have HB2 := Lib.hid b2; clear b2)
                clear p1 p2 p3 e0 e1
                go_quiet (fail)
                all_goals
                  have HB3 := Lib.hid (show Below W1.heap.size W1 (w2.drewN nq) from ⟨HB2.out.os, HB2.out.tape, HB2.out.output, HB2.out.size, HB2.out.block⟩)
                  clear p0
                  generalize w2.drewN nq = w3 at *
                  have HC3 := Lib.hid (HC1.out.below HB3.out)
                  obtain ⟨⟨p0, p1, p2, p3⟩, _⟩ := four_blk ((HB3.out.block w.heap.size (by rw [HS1.out]; omega)).trans HX1.out)
                all_goals
                  go_wp2_with ((go_at_call 89; (refine (HCN.out _ HB3.out).mono ?_); rintro e w4 ⟨rfl, b4⟩; have HB4 := Lib.hid (HB3.out.trans (b4.mono HB3.out.size)); clear b4 p0 p1 p2 p3; obtain ⟨⟨p0, p1, p2, p3⟩, _⟩ := four_blk ((HB4.out.block w.heap.size (by rw [HS1.out]; omega)).trans HX1.out)))
                  go_ret
                  exact ⟨rfl, HC1.out.below HB4.out, HO1.out.trans (Only.of_below HB4.out)⟩
theorem oneP_all (cb mb : Nat) (l : List (List UInt8 × C4)) (S : Nat → Prop) (hS : ∀ g, S g → g < cb) (hm : mb ≠ cb) : ∀ (N : Nat) (t : Tz), sizeZ t ≤ N → fitZ t = true → OneP cb mb l S t
  | 0, t, h, _ => absurd (sizeZ_pos t) (by omega)
  | N + 1, .mk k nm ns ks, h, hf => oneType_any cb mb l S hS hm k nm ns ks hf (fun i hi =>
      oneP_all cb mb l S hS hm N ks[i] (by have := sizeZ_mem ks i hi; rw [sizeZ] at h; omega) (fitZs_mem ks (fitZ_mk hf).2.2.2.2 i hi))
theorem oneP (cb mb : Nat) (l : List (List UInt8 × C4)) (S : Nat → Prop) (hS : ∀ g, S g → g < cb) (hm : mb ≠ cb) (t : Tz) (hf : fitZ t = true) : OneP cb mb l S t := oneP_all cb mb l S hS hm _ t (Nat.le_refl _) hf
end Sp
end Go.Proofs.Ytdophmlnmbcjlaa
