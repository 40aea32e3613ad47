/- finite, every, some: whether a type has a value that ends, by the names known. Written by gen_zfin.py. -/
import Derived.Test.YtdophmlnmbcjlaaT10
namespace Go.Proofs.Ytdophmlnmbcjlaa
open Go.RowKit
namespace Sp
open Sc
/-- The block of what is known: the map, how many types may yet be gone through. -/
def FnE (w : World) (fb mb n : Nat) : Prop := w.heap[fb]? = some (.cells #[.map (some mb), .int .i64 n] 115 (0, 0))
theorem FnE.lt {w : World} {fb mb n : Nat} (h : FnE w fb mb n) : fb < w.heap.size := (Array.getElem?_eq_some_iff.1 h).1
theorem FnE.below {w w' : World} {fb mb n : Nat} (h : FnE w fb mb n) (hb : Below w.heap.size w w') : FnE w' fb mb n := (hb.block fb h.lt).trans h
def FinP (fb mb : Nat) (K : List (List UInt8 × C4)) (S : Nat → Prop) (t : Tz) : Prop :=
  ∀ (n : Nat) (w : World) (c : C4), n ≤ 65536 → TzV w S t c → FnE w fb mb n → MapV w mb K →
    Calls Try.prog 91 #[.pointer (some ⟨fb, 0, none⟩), c.val] w fun e w' =>
      e = .returned (.bool (finZ (hasZ K) n t).1) ∧ FnE w' fb mb (finZ (hasZ K) n t).2 ∧ Only fb w w'
mutual
theorem finZ_le (has : List UInt8 → Bool) : ∀ (t : Tz) (n : Nat), (finZ has n t).2 ≤ n
  | .mk k nm ns ks, n => by
    unfold finZ
    split
    · exact Nat.zero_le _
    · split
      · exact Nat.sub_le _ _
      · split
        · exact Nat.le_trans (everyZ_le has ks _) (Nat.sub_le _ _)
        · split
          · exact Nat.le_trans (someZ_le has ks _) (Nat.sub_le _ _)
          · split <;> exact Nat.sub_le _ _
theorem everyZ_le (has : List UInt8 → Bool) : ∀ (ks : List Tz) (n : Nat), (everyZ has n ks).2 ≤ n
  | [], _ => Nat.le_refl _
  | t :: ks, n => by
    unfold everyZ
    split
    · exact Nat.le_trans (everyZ_le has ks _) (finZ_le has t n)
    · exact finZ_le has t n
theorem someZ_le (has : List UInt8 → Bool) : ∀ (ks : List Tz) (n : Nat), (someZ has n ks).2 ≤ n
  | [], _ => Nat.le_refl _
  | t :: ks, n => by
    unfold someZ
    split
    · exact finZ_le has t n
    · split
      · exact Nat.zero_le _
      · exact Nat.le_trans (someZ_le has ks _) (finZ_le has t n)
end
set_option maxRecDepth 100000 in
set_option maxHeartbeats 8000000 in
theorem every_any (fb mb : Nat) (K : List (List UInt8 × C4)) (S : Nat → Prop) (ks : List Tz) (us : List C4) (ak : Option Addr) (ck n : Nat) (w : World) (hS : ∀ g, S g → g < fb) (hm : mb ≠ fb)
    (hn : n ≤ 65536) (hlen : us.length = ks.length) (hkl : ks.length ≤ maxLen) (hk : RowV w S ak 4 (us.map C4.cells)) (hu : ∀ i (h : i < ks.length) (h' : i < us.length), TzV w S ks[i] us[i]) (hC : FnE w fb mb n) (hM : MapV w mb K)
    (IH : ∀ i (h : i < ks.length), FinP fb mb K S ks[i]) :
    Calls Try.prog 99 #[.pointer (some ⟨fb, 0, none⟩), .slice ak ks.length ck] w fun e w' =>
      e = .returned (.bool (everyZ (hasZ K) n ks).1) ∧ FnE w' fb mb (everyZ (hasZ K) n ks).2 ∧ Only fb w w' := by
  have hcb := hC.lt
  unfold maxLen at hkl
  obtain ⟨v, hv⟩ : ∃ v, v = everyZ (hasZ K) n ks := ⟨_, rfl⟩
  rw [← hv]
  have HV := Lib.hid hv; have HS := Lib.hid hS; have HC := Lib.hid hC; have HM := Lib.hid hM; have HK := Lib.hid hk; have HU := Lib.hid hu; have HI := Lib.hid IH; have HNE := Lib.hid hm; have HN := Lib.hid hn
  clear hv hS hC hM hk hu IH hm
  go_enter Try.func99, Try.ntmps99
  go_wp2
  go_loopw [9] (fun iv wr => ∃ j m, j ≤ ks.length ∧ m ≤ 65536 ∧ iv = .int .i64 j ∧ Hid (everyZ (hasZ K) n ks = everyZ (hasZ K) m (ks.drop j)) ∧ Hid (FnE wr fb mb m) ∧ Hid (Only fb w wr)) (fun iv _ => ks.length - (intOf iv).toNat)
  case atStart => exact ⟨0, n, Nat.zero_le _, HN.out, rfl, rfl, HC, Only.refl _ _⟩
  case round =>
    obtain ⟨j, m, hj, hm4, rfl, hq, hCk, hO⟩ := hrel
    have hws := hO.out.size
    by_cases hlt : j < ks.length
    · have hlu : j < us.length := by omega
      obtain ⟨g, o, rfl, hg, hc⟩ := four_at HK.out HS.out j hlu
      obtain ⟨c0, c1, c2, c3⟩ := hc wr (fun k hk => hO.out.block k (by omega) (fun e => by cases e; omega))
      have hT := (HU.out j hlt hlu).only HS.out (by omega) hO.out
      have hMr : MapV wr mb K := HM.out.keep hO.out (fun e => HNE.out (by cases e; rfl))
      have hdr : ks.drop j = ks[j] :: ks.drop (j + 1) := List.drop_eq_getElem_cons hlt
      have hstep : everyZ (hasZ K) m (ks.drop j) = if (finZ (hasZ K) m ks[j]).1 = true then everyZ (hasZ K) (finZ (hasZ K) m ks[j]).2 (ks.drop (j + 1)) else (false, (finZ (hasZ K) m ks[j]).2) := by rw [hdr]; rfl
      have hq2 := hq.out
      rw [hstep] at hq2
      have hI := HI.out j hlt
      have hle := finZ_le (hasZ K) ks[j] m
      have hjz : (j : Int) < (ks.length : Int) := by omega
      clear hc hdr hstep hq
      generalize ks[j] = t at *
      generalize us[j] = x at *
      obtain ⟨x1, x2, x3, x4, x5, x6, x7, x8⟩ := x
      dsimp only at *
      obtain ⟨W1, hW1⟩ : ∃ W1, W1 = wr.alloc (.cells #[.int .i64 x1, .string x2, .slice x3 x4 x5, .slice x6 x7 x8] 30) := ⟨_, rfl⟩
      have hBB : Below wr.heap.size wr W1 := by rw [hW1]; exact (Below.refl _ _).alloc (Nat.le_refl _) _
      have hC1 := hI m W1 ⟨x1, x2, x3, x4, x5, x6, x7, x8⟩ hm4 (hT.later (fun g hg => by have := HS.out g hg; omega) hBB) (hCk.out.below hBB) (hMr.below hBB)
      unfold C4.val at hC1
      dsimp only at hC1
      have hOW := hO.out.trans (Only.of_below hBB)
      have HOW := Lib.hid hOW
      have HLE := Lib.hid hle
      have HC1 := Lib.hid hC1
      clear hI hT hMr hBB hC1 hOW hle
      subst hW1
      generalize finZ (hasZ K) m t = q at *
      obtain ⟨q1, q2⟩ := q
      dsimp only at *
      have hq65 : q2 ≤ 65536 := by have := HLE.out; omega
      cases q1
      · rw [if_neg (by decide)] at hq2
        have HQ := Lib.hid hq2; clear hq2
        go_wp2_with (go_at_call 91; (with_reducible refine HC1.out.mono ?_); rintro e w1 ⟨rfl, k1, o1⟩; have K1 := Lib.hid k1; have O1 := Lib.hid o1; clear k1 o1)
        go_ret
        have hx : v = (false, q2) := by rw [HV.out, HQ.out]
        rw [hx]
        exact ⟨rfl, K1.out, HOW.out.trans O1.out⟩
      · rw [if_pos rfl] at hq2
        have HQ := Lib.hid hq2; clear hq2
        go_wp2_with (go_at_call 91; (with_reducible refine HC1.out.mono ?_); rintro e w1 ⟨rfl, k1, o1⟩; have K1 := Lib.hid k1; have O1 := Lib.hid o1; clear k1 o1)
        go_roundw
        case rel => exact ⟨j + 1, q2, by omega, hq65, by go_num, HQ, K1, HOW.out.trans O1.out⟩
        case measure => simp [intOf]; omega
    · have hjn : j = ks.length := by omega
      subst hjn
      have hz := hq.out
      rw [List.drop_length] at hz
      have HZ := Lib.hid (show everyZ (hasZ K) n ks = (true, m) from hz)
      clear hz hq
      go_wp2
      go_ret
      have hx : v = (true, m) := by rw [HV.out, HZ.out]
      rw [hx]
      exact ⟨rfl, hCk.out, hO.out⟩
set_option maxRecDepth 100000 in
set_option maxHeartbeats 8000000 in
theorem some_any (fb mb : Nat) (K : List (List UInt8 × C4)) (S : Nat → Prop) (ks : List Tz) (us : List C4) (ak : Option Addr) (ck n : Nat) (w : World) (hS : ∀ g, S g → g < fb) (hm : mb ≠ fb)
    (hn : n ≤ 65536) (hlen : us.length = ks.length) (hkl : ks.length ≤ maxLen) (hk : RowV w S ak 4 (us.map C4.cells)) (hu : ∀ i (h : i < ks.length) (h' : i < us.length), TzV w S ks[i] us[i]) (hC : FnE w fb mb n) (hM : MapV w mb K)
    (IH : ∀ i (h : i < ks.length), FinP fb mb K S ks[i]) :
    Calls Try.prog 100 #[.pointer (some ⟨fb, 0, none⟩), .slice ak ks.length ck] w fun e w' =>
      e = .returned (.bool (someZ (hasZ K) n ks).1) ∧ FnE w' fb mb (someZ (hasZ K) n ks).2 ∧ Only fb w w' := by
  have hcb := hC.lt
  unfold maxLen at hkl
  obtain ⟨v, hv⟩ : ∃ v, v = someZ (hasZ K) n ks := ⟨_, rfl⟩
  rw [← hv]
  have HV := Lib.hid hv; have HS := Lib.hid hS; have HC := Lib.hid hC; have HM := Lib.hid hM; have HK := Lib.hid hk; have HU := Lib.hid hu; have HI := Lib.hid IH; have HNE := Lib.hid hm; have HN := Lib.hid hn
  clear hv hS hC hM hk hu IH hm
  go_enter Try.func100, Try.ntmps100
  go_wp2
  go_loopw [9] (fun iv wr => ∃ j m, j ≤ ks.length ∧ m ≤ 65536 ∧ iv = .int .i64 j ∧ Hid (someZ (hasZ K) n ks = someZ (hasZ K) m (ks.drop j)) ∧ Hid (FnE wr fb mb m) ∧ Hid (Only fb w wr)) (fun iv _ => ks.length - (intOf iv).toNat)
  case atStart => exact ⟨0, n, Nat.zero_le _, HN.out, rfl, rfl, HC, Only.refl _ _⟩
  case round =>
    obtain ⟨j, m, hj, hm4, rfl, hq, hCk, hO⟩ := hrel
    have hws := hO.out.size
    by_cases hlt : j < ks.length
    · have hlu : j < us.length := by omega
      obtain ⟨g, o, rfl, hg, hc⟩ := four_at HK.out HS.out j hlu
      obtain ⟨c0, c1, c2, c3⟩ := hc wr (fun k hk => hO.out.block k (by omega) (fun e => by cases e; omega))
      have hT := (HU.out j hlt hlu).only HS.out (by omega) hO.out
      have hMr : MapV wr mb K := HM.out.keep hO.out (fun e => HNE.out (by cases e; rfl))
      have hdr : ks.drop j = ks[j] :: ks.drop (j + 1) := List.drop_eq_getElem_cons hlt
      have hstep : someZ (hasZ K) m (ks.drop j) = if (finZ (hasZ K) m ks[j]).1 = true then (true, (finZ (hasZ K) m ks[j]).2) else if (finZ (hasZ K) m ks[j]).2 = 0 then (false, 0) else someZ (hasZ K) (finZ (hasZ K) m ks[j]).2 (ks.drop (j + 1)) := by rw [hdr]; rfl
      have hq2 := hq.out
      rw [hstep] at hq2
      have hI := HI.out j hlt
      have hle := finZ_le (hasZ K) ks[j] m
      have hjz : (j : Int) < (ks.length : Int) := by omega
      clear hc hdr hstep hq
      generalize ks[j] = t at *
      generalize us[j] = x at *
      obtain ⟨x1, x2, x3, x4, x5, x6, x7, x8⟩ := x
      dsimp only at *
      obtain ⟨W1, hW1⟩ : ∃ W1, W1 = wr.alloc (.cells #[.int .i64 x1, .string x2, .slice x3 x4 x5, .slice x6 x7 x8] 30) := ⟨_, rfl⟩
      have hBB : Below wr.heap.size wr W1 := by rw [hW1]; exact (Below.refl _ _).alloc (Nat.le_refl _) _
      have hC1 := hI m W1 ⟨x1, x2, x3, x4, x5, x6, x7, x8⟩ hm4 (hT.later (fun g hg => by have := HS.out g hg; omega) hBB) (hCk.out.below hBB) (hMr.below hBB)
      unfold C4.val at hC1
      dsimp only at hC1
      have hOW := hO.out.trans (Only.of_below hBB)
      have HOW := Lib.hid hOW
      have HLE := Lib.hid hle
      have HC1 := Lib.hid hC1
      clear hI hT hMr hBB hC1 hOW hle
      subst hW1
      generalize finZ (hasZ K) m t = q at *
      obtain ⟨q1, q2⟩ := q
      dsimp only at *
      have hq65 : q2 ≤ 65536 := by have := HLE.out; omega
      cases q1
      · rw [if_neg (by decide)] at hq2
        by_cases hz : q2 = 0
        · subst hz
          rw [if_pos rfl] at hq2
          have HQ := Lib.hid hq2; clear hq2
          go_wp2_with (go_at_call 91; (with_reducible refine HC1.out.mono ?_); rintro e w1 ⟨rfl, k1, o1⟩; obtain ⟨⟨s0, s1⟩, _⟩ := two_blk k1; have K1 := Lib.hid k1; have O1 := Lib.hid o1; clear k1 o1)
          go_ret
          have hx : v = (false, 0) := by rw [HV.out, HQ.out]
          rw [hx]
          exact ⟨rfl, K1.out, HOW.out.trans O1.out⟩
        · rw [if_neg hz] at hq2
          have HQ := Lib.hid hq2; clear hq2
          have t0 : ((q2 : Nat) == (0 : Int)) = false := by simp; omega
          have hnz : (q2 : Int) ≠ 0 := by omega
          go_wp2_with (go_at_call 91; (with_reducible refine HC1.out.mono ?_); rintro e w1 ⟨rfl, k1, o1⟩; obtain ⟨⟨s0, s1⟩, _⟩ := two_blk k1; have K1 := Lib.hid k1; have O1 := Lib.hid o1; clear k1 o1)
          go_roundw
          case rel => exact ⟨j + 1, q2, by omega, hq65, by go_num, HQ, K1, HOW.out.trans O1.out⟩
          case measure => simp [intOf]; omega
      · rw [if_pos rfl] at hq2
        have HQ := Lib.hid hq2; clear hq2
        go_wp2_with (go_at_call 91; (with_reducible refine HC1.out.mono ?_); rintro e w1 ⟨rfl, k1, o1⟩; have K1 := Lib.hid k1; have O1 := Lib.hid o1; clear k1 o1)
        go_ret
        have hx : v = (true, q2) := by rw [HV.out, HQ.out]
        rw [hx]
        exact ⟨rfl, K1.out, HOW.out.trans O1.out⟩
    · have hjn : j = ks.length := by omega
      subst hjn
      have hz := hq.out
      rw [List.drop_length] at hz
      have HZ := Lib.hid (show someZ (hasZ K) n ks = (false, m) from hz)
      clear hz hq
      go_wp2
      go_ret
      have hx : v = (false, m) := by rw [HV.out, HZ.out]
      rw [hx]
      exact ⟨rfl, hCk.out, hO.out⟩
set_option maxRecDepth 100000 in
set_option maxHeartbeats 16000000 in
theorem finite_any (fb mb : Nat) (K : List (List UInt8 × C4)) (S : Nat → Prop) (hS : ∀ g, S g → g < fb) (hm : mb ≠ fb) (k : Int) (nm : List UInt8) (ns : List (List UInt8)) (ks : List Tz) (hf : fitZ (.mk k nm ns ks) = true)
    (IH : ∀ i (h : i < ks.length), FinP fb mb K S ks[i]) : FinP fb mb K S (.mk k nm ns ks) := by
  intro n w c hn hV hC hM
  obtain ⟨f1, f2, f3, f4, f5⟩ := fitZ_mk hf
  have hcb := hC.lt
  cases hV with
  | mk _ _ _ _ an cn ak ck us hl hnr hkr hu =>
  unfold C4.val
  dsimp only
  obtain ⟨v, hv⟩ : ∃ v, v = finZ (hasZ K) n (.mk k nm ns ks) := ⟨_, rfl⟩
  rw [← hv]
  unfold finZ at hv
  rcases n with _ | n
  · rw [if_pos rfl] at hv
    subst hv
    have hb0 : Below w.heap.size w (w.alloc (.cells #[.int .i64 k, .string ⟨nm.toArray⟩, .slice an ns.length cn, .slice ak ks.length ck] 30)) := (Below.refl _ _).alloc (Nat.le_refl _) _
    have hC0 := hC.below hb0
    obtain ⟨⟨s0, s1⟩, _⟩ := two_blk hC0
    have HC0 := Lib.hid hC0; have HB0 := Lib.hid hb0
    clear hC hM hnr hkr hu IH hf f1 f2 f3 f4 f5 hl hC0 hb0 hS hm
    have s1' : (w.alloc (.cells #[.int .i64 k, .string ⟨nm.toArray⟩, .slice an ns.length cn, .slice ak ks.length ck] 30)).cell? ⟨fb, 1, none⟩ = some (.int .i64 0) := s1
    go_enter Try.func91, Try.ntmps91
    go_wp2
    go_ret
    exact ⟨rfl, HC0.out, Only.of_below HB0.out⟩
  · rw [if_neg (by omega), Nat.add_sub_cancel] at hv
    have hC' : w.heap[fb]? = some (.cells #[.map (some mb), .int .i64 ((n : Int) + 1)] 115 (0, 0)) := hC
    obtain ⟨⟨s0, s1⟩, ⟨z0, z1⟩⟩ := two_blk hC'
    have q0 : (w.alloc (.cells #[.int .i64 k, .string ⟨nm.toArray⟩, .slice an ns.length cn, .slice ak ks.length ck] 30)).cell? ⟨fb, 1, none⟩ = some (.int .i64 ((n : Int) + 1)) := (((Below.refl w.heap.size w).alloc (Nat.le_refl _) _).cell (p := ⟨fb, 1, none⟩) hcb).trans s1
    have q1 : (w.alloc (.cells #[.int .i64 k, .string ⟨nm.toArray⟩, .slice an ns.length cn, .slice ak ks.length ck] 30)).frozen? ⟨fb, 1, none⟩ = false := (two_blk (hC.below ((Below.refl _ _).alloc (Nat.le_refl _) _))).2.2
    obtain ⟨WS, hWS⟩ : ∃ WS, WS = w.setCell ⟨fb, 1, none⟩ (.int .i64 (n : Int)) := ⟨_, rfl⟩
    have hCS : FnE WS fb mb n := by rw [hWS]; exact set_two1 hC _
    have hOS : Only fb w WS := by rw [hWS]; exact (Only.refl fb w).setCell 1 _
    have hsS : WS.heap.size = w.heap.size := by rw [hWS]; simp [World.setCell]
    obtain ⟨W1, hW1⟩ : ∃ W1, W1 = WS.alloc (.cells #[.int .i64 k, .string ⟨nm.toArray⟩, .slice an ns.length cn, .slice ak ks.length ck] 30) := ⟨_, rfl⟩
    have hs1 : W1.heap.size = w.heap.size + 1 := by rw [hW1]; simp [hsS]
    have hB1 : Below WS.heap.size WS W1 := by rw [hW1]; exact (Below.refl _ _).alloc (Nat.le_refl _) _
    have hx1 : W1.heap[w.heap.size]? = some (.cells #[.int .i64 k, .string ⟨nm.toArray⟩, .slice an ns.length cn, .slice ak ks.length ck] 30 (0, 0)) := by rw [hW1, ← hsS]; exact heap_alloc_new WS _
    have hC1 : FnE W1 fb mb n := hCS.below hB1
    have hO1 : Only fb w W1 := hOS.trans (Only.of_below hB1)
    obtain ⟨⟨e0, e1⟩, _⟩ := two_blk hC1
    obtain ⟨⟨p0, p1, p2, p3⟩, _⟩ := four_blk hx1
    have kb : ∀ g, g < fb → W1.heap[g]? = w.heap[g]? := fun g hg => hO1.block g (by omega) (fun e => by cases e; omega)
    have hM1 : MapV W1 mb K := hM.keep hO1 (fun e => hm (by cases e; rfl))
    have CE := every_any fb mb K S ks us ak ck n W1 hS hm (by omega) hl f4 (hkr.keep (fun _ h => h) (fun g hg => kb g (hS g hg))) (fun i h h' => (hu i h h').keep (fun _ h => h) (fun g hg => kb g (hS g hg))) hC1 hM1 IH
    have CS := some_any fb mb K S ks us ak ck n W1 hS hm (by omega) hl f4 (hkr.keep (fun _ h => h) (fun g hg => kb g (hS g hg))) (fun i h h' => (hu i h h').keep (fun _ h => h) (fun g hg => kb g (hS g hg))) hC1 hM1 IH
    have CH := fun W (hB : Below W1.heap.size W1 W) => has_any W mb K nm (hM1.below hB) f1
    have hnz : (n : Int) ≤ 65536 := by omega
    have HC1 := Lib.hid hC1; have HO1 := Lib.hid hO1; have HX1 := Lib.hid hx1; have HCE := Lib.hid CE; have HCS := Lib.hid CS; have HCH := Lib.hid CH; have HS1 := Lib.hid hs1
    have hcw : fb ≠ w.heap.size := by omega
    have HW1 := Lib.hid hW1; have HWS := Lib.hid hWS
    rw [hWS] at hW1
    rw [hW1] at e0 e1 p0 p1 p2 p3
    clear hC hC' hM hnr hkr hu IH hf f1 f2 f3 f4 f5 hl hC1 hO1 hx1 kb hM1 CE CS CH hS hm hs1 hCS hOS hsS hB1 hWS hW1
    by_cases h16 : 1 ≤ k ∧ k ≤ 6
    · rw [if_pos h16] at hv
      have h6 : k = 1 ∨ k = 2 ∨ k = 3 ∨ k = 4 ∨ k = 5 ∨ k = 6 := by omega
      clear h16
      subst hv
      rcases h6 with rfl | rfl | rfl | rfl | rfl | rfl
      all_goals
        go_enter Try.func91, Try.ntmps91
        go_wp2
        go_ret
        rw [← HWS.out, ← HW1.out]
        exact ⟨rfl, HC1.out, HO1.out⟩
    · rw [if_neg h16] at hv
      by_cases h7 : k = 7
      · subst h7
        rw [if_pos rfl] at hv
        subst hv
        clear h16
        go_enter Try.func91, Try.ntmps91
        go_wp2_with fail
        rw [← HWS.out, ← HW1.out]
        go_wp2_with (go_at_call 99; (with_reducible refine HCE.out.mono ?_); rintro e w1 ⟨rfl, k1, o1⟩; have K1 := Lib.hid k1; have O1 := Lib.hid o1; clear k1 o1)
        go_ret
        exact ⟨rfl, K1.out, HO1.out.trans O1.out⟩
      · rw [if_neg h7] at hv
        by_cases h8 : k = 8
        · subst h8
          rw [if_pos rfl] at hv
          subst hv
          clear h16
          go_enter Try.func91, Try.ntmps91
          go_wp2_with fail
          rw [← HWS.out, ← HW1.out]
          go_wp2_with (go_at_call 100; (with_reducible refine HCS.out.mono ?_); rintro e w1 ⟨rfl, k1, o1⟩; have K1 := Lib.hid k1; have O1 := Lib.hid o1; clear k1 o1)
          go_ret
          exact ⟨rfl, K1.out, HO1.out.trans O1.out⟩
        · rw [if_neg h8] at hv
          by_cases h9 : k = 9
          · subst h9
            rw [if_pos rfl] at hv
            clear h16
            subst hv
            dsimp only
            go_enter Try.func91, Try.ntmps91
            go_wp2_with fail
            rw [← HWS.out, ← HW1.out]
            rw [← HWS.out, ← HW1.out] at e0 p1
            have p1d : W1.drew.cell? ⟨w.heap.size, 1, none⟩ = some (.string ⟨nm.toArray⟩) := p1
            have e0d : W1.drew.cell? ⟨fb, 0, none⟩ = some (.map (some mb)) := e0
            have fl : w.heap.size < W1.drew.heap.size := by show w.heap.size < W1.heap.size; rw [HS1.out]; omega
            have fl2 : fb < W1.drew.heap.size := by omega
            have HBD := Lib.hid ((Below.refl W1.heap.size W1).drew)
            clear p0 p2 p3 e1
            go_region_held3 (fun w' => w'.cell? ⟨w.heap.size, 1, none⟩ = some (.string ⟨nm.toArray⟩) ∧ w'.cell? ⟨fb, 0, none⟩ = some (.map (some mb))) (go_keep) (first
              | (go_at_call 88; (refine (HCH.out _ HBD.out).mono ?_); rintro e w3 ⟨rfl, b3⟩; have n2 := (b3.cell (p := ⟨w.heap.size, 1, none⟩) fl).trans p1d; have n3 := (b3.cell (p := ⟨fb, 0, none⟩) fl2).trans e0d))
            all_goals
              have HB3 := Lib.hid (show Below W1.heap.size W1 w3 from ⟨b3.os, b3.tape, b3.output, b3.size, b3.block⟩)
              go_wp2
              go_ret
              exact ⟨rfl, HC1.out.below HB3.out, HO1.out.trans (Only.of_below HB3.out)⟩
          · rw [if_neg h9] at hv
            have t1 : (k == 1) = false := by simp; omega
            have t2 : (k == 2) = false := by simp; omega
            have t3 : (k == 3) = false := by simp; omega
            have t4 : (k == 4) = false := by simp; omega
            have t5 : (k == 5) = false := by simp; omega
            have t6 : (k == 6) = false := by simp; omega
            have t7 : (k == 7) = false := by simp; omega
            have t8 : (k == 8) = false := by simp; omega
            have t9 : (k == 9) = false := by simp; omega
            clear h16 h7 h8 h9
            subst hv
            go_enter Try.func91, Try.ntmps91
            go_wp2
            go_ret
            rw [← HWS.out, ← HW1.out]
            exact ⟨rfl, HC1.out, HO1.out⟩
theorem finP_all (fb mb : Nat) (K : List (List UInt8 × C4)) (S : Nat → Prop) (hS : ∀ g, S g → g < fb) (hm : mb ≠ fb) : ∀ (N : Nat) (t : Tz), sizeZ t ≤ N → fitZ t = true → FinP fb mb K S t
  | 0, t, h, _ => absurd (sizeZ_pos t) (by omega)
  | N + 1, .mk k nm ns ks, h, hf => finite_any fb mb K S hS hm k nm ns ks hf (fun i hi =>
      finP_all fb mb K S hS hm N ks[i] (by have := sizeZ_mem ks i hi; rw [sizeZ] at h; omega) (fitZs_mem ks (fitZ_mk hf).2.2.2.2 i hi))
theorem finP (fb mb : Nat) (K : List (List UInt8 × C4)) (S : Nat → Prop) (hS : ∀ g, S g → g < fb) (hm : mb ≠ fb) (t : Tz) (hf : fitZ t = true) : FinP fb mb K S t := finP_all fb mb K S hS hm _ t (Nat.le_refl _) hf
end Sp
end Go.Proofs.Ytdophmlnmbcjlaa
