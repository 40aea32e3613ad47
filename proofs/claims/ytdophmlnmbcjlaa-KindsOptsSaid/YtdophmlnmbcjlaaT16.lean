/- Check and Finite. Written by gen_zcheck.py. -/
import Derived.Test.YtdophmlnmbcjlaaT15
namespace Go.Proofs.Ytdophmlnmbcjlaa
open Go.RowKit
namespace Sp
open Sc
theorem blk_allocZ {w : World} {b : Nat} {o : Obj} (h : w.heap[b]? = some o) (x : Obj) : (w.alloc x).heap[b]? = some o :=
  (((Below.refl w.heap.size w).alloc (Nat.le_refl _) x).block b (Array.getElem?_eq_some_iff.1 h).1).trans h
theorem names_len (s : Sz) (hf : SzFit s) {w : World} {S : Nat → Prop} {c : C4} {a1 a2 : Option Addr} {us : List (List UInt8 × C4)} {gs : List (List UInt8 × G6)} (hV : SzV w S s c a1 us a2 gs) : ∀ i (h : i < us.length), us[i].1.length ≤ maxLen := fun i h => by
  have h2 : i < s.types.length := by rw [← hV.nt]; exact h
  rw [(hV.vt i h2 h).1]
  exact (hf.types i h2).1
set_option maxRecDepth 100000 in
set_option maxHeartbeats 32000000 in
theorem Check_any (S : Nat → Prop) (s : Sz) (c : C4) (a1 a2 : Option Addr) (us : List (List UInt8 × C4)) (gs : List (List UInt8 × G6)) (c1 c2 : Nat) (r : Nat) (w : World)
    (hS : ∀ g, S g → g < w.heap.size) (hf : SzFit s) (hnt : s.types.length ≤ 1000000) (hng : s.sigs.length ≤ 1000000) (hV : SzV w S s c a1 us a2 gs) (hr : checkZ s = some r) :
    Calls Try.prog 24 #[.agg #[.int .i64 c.k, .string c.n, .slice c.an c.ln c.cn, .slice c.ak c.lk c.ck, .slice a1 s.types.length c1, .slice a2 s.sigs.length c2]] w fun e w' =>
      e = .returned (.int .i64 r) ∧ Below w.heap.size w w' := by
  unfold checkZ at hr
  have hnl := names_len s hf hV
  obtain ⟨x1, x2, x3, x4, x5, x6, x7, x8⟩ := c
  dsimp only
  obtain ⟨W0, hW0⟩ : ∃ W0, W0 = w.alloc (.cells #[.int .i64 x1, .string x2, .slice x3 x4 x5, .slice x6 x7 x8, .slice a1 s.types.length c1, .slice a2 s.sigs.length c2] 34) := ⟨_, rfl⟩
  have hs0 : W0.heap.size = w.heap.size + 1 := by rw [hW0]; simp
  have hb0 : Below w.heap.size w W0 := by rw [hW0]; exact (Below.refl _ _).alloc (Nat.le_refl _) _
  have hx0 : W0.heap[w.heap.size]? = some (.cells #[.int .i64 x1, .string x2, .slice x3 x4 x5, .slice x6 x7 x8, .slice a1 s.types.length c1, .slice a2 s.sigs.length c2] 34 (0, 0)) := by rw [hW0]; exact heap_alloc_new w _
  have kb : ∀ W, Below W0.heap.size W0 W → ∀ g, S g → W.heap[g]? = w.heap[g]? := fun W hB g hg => (hB.block g (by have := hS g hg; omega)).trans (hb0.block g (hS g hg))
  have kS : ∀ W, Below W0.heap.size W0 W → ∀ g, S g → g < W.heap.size := fun W hB g hg => by have h1 := hS g hg; have h2 := hB.size; omega
  have kV : ∀ W, Below W0.heap.size W0 W → SzV W S s ⟨x1, x2, x3, x4, x5, x6, x7, x8⟩ a1 us a2 gs := fun W hB => hV.keep (kb W hB)
  have kx : ∀ W, Below W0.heap.size W0 W → W.heap[w.heap.size]? = some (.cells #[.int .i64 x1, .string x2, .slice x3 x4 x5, .slice x6 x7 x8, .slice a1 s.types.length c1, .slice a2 s.sigs.length c2] 34 (0, 0)) := fun W hB => (hB.block _ (by omega)).trans hx0
  have hml : (1000000 : Nat) ≤ maxLen := by unfold maxLen; omega
  have CT := fun W (hB : Below W0.heap.size W0 W) => typeNames_any us a1 c1 W S (kV W hB).rt (kS W hB) hnl (by rw [hV.nt]; omega)
  have CM := fun W (hB : Below W0.heap.size W0 W) => meanings_any us a1 c1 W S (kV W hB).rt (kS W hB) hnl (by rw [hV.nt]; unfold maxLen; omega)
  have hnm := hV.names
  simp only [hnm, hV.nt] at CT CM
  have hhs : ∀ n, hasZ us n = hasZ s.types n := hasZ_names us s.types hnm
  have CS := fun W cb mb (hB : Below W0.heap.size W0 W) (hlt : W0.heap.size ≤ cb) (hm : mb ≠ cb) (hC : CkE W cb mb 0) (hM : MapV W mb us) => schema_any cb mb us S s ⟨x1, x2, x3, x4, x5, x6, x7, x8⟩ a1 a2 us gs c1 c2 W (fun g hg => by have := hS g hg; omega) hm hf (by omega) (by omega) (kV W hB) hC hM hhs
  have CE := fun W (hB : Below W0.heap.size W0 W) => ends_any S s.types us a1 c1 W (kS W hB) hf.types hV.nt (by unfold maxLen; omega) (kV W hB).rt (kV W hB).vt
  have CO := fun W mb (hB : Below W0.heap.size W0 W) (hM : MapV W mb us) (ho : optOk s = true) => optOfOpt_any mb S s ⟨x1, x2, x3, x4, x5, x6, x7, x8⟩ a1 a2 us gs c1 c2 W (kS W hB) hf (by omega) (by omega) (kV W hB) hM ho
  dsimp only at CS CO
  have hn1 : s.types.length ≤ 9223372036854775807 := by omega
  have hn2 : s.sigs.length ≤ 9223372036854775807 := by omega
  have HB0 := Lib.hid hb0; have HW0 := Lib.hid hW0; have HS0 := Lib.hid hs0; have HKX := Lib.hid kx; have HCT := Lib.hid CT; have HCM := Lib.hid CM; have HCS := Lib.hid CS; have HCE := Lib.hid CE; have HCO := Lib.hid CO
  have BR := Lib.hid (Below.refl W0.heap.size W0)
  clear hb0 hW0 hs0 kV kx kS kb hx0 CT CM CS CE CO hhs hnm hnl hV hf hS hml
  by_cases hA : 12 < s.types.length ∨ 12 < s.sigs.length
  · rw [if_pos hA] at hr
    obtain rfl := Option.some.inj hr
    by_cases hA1 : 12 < s.types.length
    · have h12 : 12 < (s.types.length : Int) := by omega
      clear hA hA1 hr
      go_enter Try.func24, Try.ntmps24
      go_wp2
      go_ret
      rw [← HW0.out]
      exact ⟨rfl, HB0.out⟩
    · have h12 : ¬ 12 < (s.types.length : Int) := by omega
      have h13 : 12 < (s.sigs.length : Int) := by omega
      clear hA hA1 hr
      go_enter Try.func24, Try.ntmps24
      go_wp2
      go_ret
      rw [← HW0.out]
      exact ⟨rfl, HB0.out⟩
  · rw [if_neg hA] at hr
    have h12 : ¬ 12 < (s.types.length : Int) := by omega
    have h13 : ¬ 12 < (s.sigs.length : Int) := by omega
    clear hA
    by_cases hN : namesE wordB [] (s.types.map (·.1)) ≠ 0
    · rw [if_pos hN] at hr
      obtain rfl := Option.some.inj hr
      have hnz : (namesE wordB [] (s.types.map (·.1)) : Int) ≠ 0 := by omega
      have t0 : ((namesE wordB [] (s.types.map (·.1)) : Nat) == (0 : Int)) = false := by simp; omega
      generalize namesE wordB [] (s.types.map (·.1)) = ne at *
      clear hr
      go_enter Try.func24, Try.ntmps24
      go_wp2_with fail
      rw [← HW0.out]
      go_wp2_with (go_at_call 41; (refine (HCT.out _ BR.out).mono ?_); rintro e w1 ⟨rfl, b1⟩; have HB1 := Lib.hid b1; obtain ⟨p0, p1, p2, p3, p4, p5⟩ := six_blk (HKX.out w1 b1); clear b1)
      go_ret
      exact ⟨rfl, HB0.out.trans (HB1.out.mono (by rw [HS0.out]; omega))⟩
    · rw [if_neg hN] at hr
      have CT2 := HCT.out
      simp only [show namesE wordB [] (s.types.map (·.1)) = 0 by omega] at CT2
      have HCT := Lib.hid CT2
      clear CT2 hN
      by_cases hC : schZ s ≠ 0
      · rw [if_pos hC] at hr
        obtain rfl := Option.some.inj hr
        have hnz : (schZ s : Int) ≠ 0 := by omega
        have t0 : ((schZ s : Nat) == (0 : Int)) = false := by simp; omega
        generalize schZ s = se at *
        clear hr
        go_enter Try.func24, Try.ntmps24
        go_wp2_with fail
        rw [← HW0.out]
        go_wp2_with (first
          | (go_at_call 41; (refine (HCT.out _ BR.out).mono ?_); rintro e w1 ⟨rfl, b1⟩; have HB1 := Lib.hid b1; obtain ⟨p0, p1, p2, p3, p4, p5⟩ := six_blk (HKX.out w1 b1); clear b1)
          | (go_at_call 42; (refine (HCM.out _ HB1.out).mono ?_); rintro e w2 ⟨mb, rfl, m1, m2, b2⟩; have hmb := m2.lt; have HM2 := Lib.hid m2; have HB2 := Lib.hid (HB1.out.trans (b2.mono HB1.out.size)); clear m1 m2 b2 p0 p1 p2 p3 p4 p5; obtain ⟨p0, p1, p2, p3, p4, p5⟩ := six_blk (blk_allocZ (HKX.out w2 HB2.out) (.cells #[.map (some mb), .int .i64 0] 111))))
        clear p0 p1 p2 p3 p4 p5
        obtain ⟨W3, hW3⟩ : ∃ W3, W3 = w2.alloc (.cells #[.map (some mb), .int .i64 0] 111) := ⟨_, rfl⟩
        have HC3 : Hid (CkE W3 w2.heap.size mb 0) := by rw [hW3]; exact heap_alloc_new w2 _
        have hA3 : Below w2.heap.size w2 W3 := by rw [hW3]; exact (Below.refl _ _).alloc (Nat.le_refl _) _
        have HM3 := Lib.hid (HM2.out.below hA3)
        have HB3 := Lib.hid (HB2.out.trans (hA3.mono HB2.out.size))
        have hmc : mb ≠ w2.heap.size := by omega
        have hw2 := HB2.out.size
        rw [← hW3]
        clear hW3 hA3
        go_wp2_with (go_at_call 43; (refine (HCS.out _ _ _ HB3.out hw2 hmc HC3.out HM3.out).mono ?_); rintro e w4 ⟨rfl, ⟨mc, k4⟩, o4⟩; have HB4 : Hid (Below W0.heap.size W0 w4) := HB3.out.trans (o4.below hw2 HB3.out.size); have HC4 := Lib.hid k4; have HM4 : Hid (MapV w4 mb us) := HM3.out.keep o4 (by simpa using hmc); clear k4 o4; obtain ⟨p0, p1, p2, p3, p4, p5⟩ := six_blk (HKX.out w4 HB4.out))
        go_ret
        exact ⟨rfl, HB0.out.trans (HB4.out.mono (by rw [HS0.out]; omega))⟩
      · rw [if_neg hC] at hr
        have CS2 := HCS.out
        simp only [show schZ s = 0 by omega] at CS2
        have HCS := Lib.hid CS2
        clear CS2 hC
        by_cases hE : (endsZ s.types).1.length < s.types.length
        · rw [if_pos hE] at hr
          obtain rfl := Option.some.inj hr
          have hEz : ((endsZ s.types).1.length : Int) < (s.types.length : Int) := by omega
          clear hr hE
          go_enter Try.func24, Try.ntmps24
          go_wp2_with fail
          rw [← HW0.out]
          go_wp2_with (first
            | (go_at_call 41; (refine (HCT.out _ BR.out).mono ?_); rintro e w1 ⟨rfl, b1⟩; have HB1 := Lib.hid b1; obtain ⟨p0, p1, p2, p3, p4, p5⟩ := six_blk (HKX.out w1 b1); clear b1)
            | (go_at_call 42; (refine (HCM.out _ HB1.out).mono ?_); rintro e w2 ⟨mb, rfl, m1, m2, b2⟩; have hmb := m2.lt; have HM2 := Lib.hid m2; have HB2 := Lib.hid (HB1.out.trans (b2.mono HB1.out.size)); clear m1 m2 b2 p0 p1 p2 p3 p4 p5; obtain ⟨p0, p1, p2, p3, p4, p5⟩ := six_blk (blk_allocZ (HKX.out w2 HB2.out) (.cells #[.map (some mb), .int .i64 0] 111))))
          clear p0 p1 p2 p3 p4 p5
          obtain ⟨W3, hW3⟩ : ∃ W3, W3 = w2.alloc (.cells #[.map (some mb), .int .i64 0] 111) := ⟨_, rfl⟩
          have HC3 : Hid (CkE W3 w2.heap.size mb 0) := by rw [hW3]; exact heap_alloc_new w2 _
          have hA3 : Below w2.heap.size w2 W3 := by rw [hW3]; exact (Below.refl _ _).alloc (Nat.le_refl _) _
          have HM3 := Lib.hid (HM2.out.below hA3)
          have HB3 := Lib.hid (HB2.out.trans (hA3.mono HB2.out.size))
          have hmc : mb ≠ w2.heap.size := by omega
          have hw2 := HB2.out.size
          rw [← hW3]
          clear hW3 hA3
          go_wp2_with (first
            | (go_at_call 43; (refine (HCS.out _ _ _ HB3.out hw2 hmc HC3.out HM3.out).mono ?_); rintro e w4 ⟨rfl, ⟨mc, k4⟩, o4⟩; have HB4 : Hid (Below W0.heap.size W0 w4) := HB3.out.trans (o4.below hw2 HB3.out.size); have HC4 := Lib.hid k4; have HM4 : Hid (MapV w4 mb us) := HM3.out.keep o4 (by simpa using hmc); clear k4 o4; obtain ⟨p0, p1, p2, p3, p4, p5⟩ := six_blk (HKX.out w4 HB4.out))
            | (go_at_call 44; (refine (HCE.out _ HB4.out).mono ?_); rintro e w5 ⟨fb, rfl, mb2, K2, g1, g2, g3, g4, g5, g6, g7, g8, g9⟩; have HE5 := Lib.hid g9; have HB5 := Lib.hid (HB4.out.trans (g9.mono HB4.out.size)); have HC5 := Lib.hid (HC4.out.below g9); clear p0 p1 p2 p3 p4 p5; obtain ⟨p0, p1, p2, p3, p4, p5⟩ := six_blk (HKX.out w5 HB5.out); obtain ⟨⟨f0, f1⟩, _⟩ := two_blk g3; have hlk := (MapV.drew g4).len g5 3; rw [show K2.length = (endsZ s.types).1.length by have := congrArg List.length g6; simpa using this] at hlk; have hl5 : (endsZ s.types).1.length ≤ 9223372036854775807 := Nat.le_trans g7 hn1; clear g1 g2 g3 g4 g5 g6 g7 g8 g9))
          go_wp2_with fail
          go_region
          all_goals
            go_wp2
            go_ret
            exact ⟨rfl, HB0.out.trans (HB5.out.drew.mono (by rw [HS0.out]; omega))⟩
        · rw [if_neg hE] at hr
          have hEz : ¬ ((endsZ s.types).1.length : Int) < (s.types.length : Int) := by omega
          clear hE
          cases hO : optOk s
          · rw [hO] at hr; cases hr
          · rw [hO, if_pos rfl] at hr
            obtain rfl := Option.some.inj hr
            have CO2 := fun W mb hB hM => HCO.out W mb hB hM hO
            have HCO := Lib.hid CO2
            clear CO2 hO hr
            generalize optOf s = oo at *
            cases oo
            all_goals
              go_enter Try.func24, Try.ntmps24
              go_wp2_with fail
              rw [← HW0.out]
              go_wp2_with (first
                | (go_at_call 41; (refine (HCT.out _ BR.out).mono ?_); rintro e w1 ⟨rfl, b1⟩; have HB1 := Lib.hid b1; obtain ⟨p0, p1, p2, p3, p4, p5⟩ := six_blk (HKX.out w1 b1); clear b1)
                | (go_at_call 42; (refine (HCM.out _ HB1.out).mono ?_); rintro e w2 ⟨mb, rfl, m1, m2, b2⟩; have hmb := m2.lt; have HM2 := Lib.hid m2; have HB2 := Lib.hid (HB1.out.trans (b2.mono HB1.out.size)); clear m1 m2 b2 p0 p1 p2 p3 p4 p5; obtain ⟨p0, p1, p2, p3, p4, p5⟩ := six_blk (blk_allocZ (HKX.out w2 HB2.out) (.cells #[.map (some mb), .int .i64 0] 111))))
              clear p0 p1 p2 p3 p4 p5
              obtain ⟨W3, hW3⟩ : ∃ W3, W3 = w2.alloc (.cells #[.map (some mb), .int .i64 0] 111) := ⟨_, rfl⟩
              have HC3 : Hid (CkE W3 w2.heap.size mb 0) := by rw [hW3]; exact heap_alloc_new w2 _
              have hA3 : Below w2.heap.size w2 W3 := by rw [hW3]; exact (Below.refl _ _).alloc (Nat.le_refl _) _
              have HM3 := Lib.hid (HM2.out.below hA3)
              have HB3 := Lib.hid (HB2.out.trans (hA3.mono HB2.out.size))
              have hmc : mb ≠ w2.heap.size := by omega
              have hw2 := HB2.out.size
              rw [← hW3]
              clear hW3 hA3
              go_wp2_with (first
                | (go_at_call 43; (refine (HCS.out _ _ _ HB3.out hw2 hmc HC3.out HM3.out).mono ?_); rintro e w4 ⟨rfl, ⟨mc, k4⟩, o4⟩; have HB4 : Hid (Below W0.heap.size W0 w4) := HB3.out.trans (o4.below hw2 HB3.out.size); have HC4 := Lib.hid k4; have HM4 : Hid (MapV w4 mb us) := HM3.out.keep o4 (by simpa using hmc); clear k4 o4; obtain ⟨p0, p1, p2, p3, p4, p5⟩ := six_blk (HKX.out w4 HB4.out))
                | (go_at_call 44; (refine (HCE.out _ HB4.out).mono ?_); rintro e w5 ⟨fb, rfl, mb2, K2, g1, g2, g3, g4, g5, g6, g7, g8, g9⟩; have HE5 := Lib.hid g9; have HB5 := Lib.hid (HB4.out.trans (g9.mono HB4.out.size)); have HC5 := Lib.hid (HC4.out.below g9); clear p0 p1 p2 p3 p4 p5; obtain ⟨p0, p1, p2, p3, p4, p5⟩ := six_blk (HKX.out w5 HB5.out); obtain ⟨⟨f0, f1⟩, _⟩ := two_blk g3; have hlk := (MapV.drew g4).len g5 3; rw [show K2.length = (endsZ s.types).1.length by have := congrArg List.length g6; simpa using this] at hlk; have hl5 : (endsZ s.types).1.length ≤ 9223372036854775807 := Nat.le_trans g7 hn1; clear g1 g2 g3 g4 g5 g6 g7 g8 g9))
              go_wp2_with fail
              go_region
              all_goals
                obtain ⟨W5, hW5⟩ : ∃ W5, W5 = w5.drew := ⟨_, rfl⟩
                have HB5' : Hid (Below W0.heap.size W0 W5) := by rw [hW5]; exact ⟨HB5.out.os, HB5.out.tape, HB5.out.output, HB5.out.size, HB5.out.block⟩
                have HC5' : Hid (CkE W5 w2.heap.size mb mc) := by rw [hW5]; exact HC5.out
                have HM5' : Hid (MapV W5 mb us) := HM4.out.below (by rw [hW5]; exact ⟨HE5.out.os, HE5.out.tape, HE5.out.output, HE5.out.size, HE5.out.block⟩)
                rw [← hW5]
                clear hW5 p0 p1 p2 p3 p4 p5
                obtain ⟨p0, p1, p2, p3, p4, p5⟩ := six_blk (HKX.out W5 HB5'.out)
                obtain ⟨⟨e0, e1⟩, _⟩ := two_blk HC5'.out
                go_wp2_with (go_at_call 45; (refine (HCO.out _ mb HB5'.out HM5'.out).mono ?_); rintro e w6 ⟨rfl, b6⟩; have HB6 := Lib.hid b6; clear b6)
                go_ret
                exact ⟨rfl, HB0.out.trans ((HB5'.out.trans (HB6.out.mono HB5'.out.size)).mono (by rw [HS0.out]; omega))⟩
end Sp
end Go.Proofs.Ytdophmlnmbcjlaa
