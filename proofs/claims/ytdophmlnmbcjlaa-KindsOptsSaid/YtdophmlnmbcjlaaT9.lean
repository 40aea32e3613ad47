/- The builtin functions' names. -/
import Derived.Test.YtdophmlnmbcjlaaT6
import Derived.Test.YtdophmlnmbcjlaaT8
namespace Go.Proofs.Ytdophmlnmbcjlaa
open Go.RowKit
namespace Sp
open Sc
theorem Builtin_cases (s : List UInt8) (h : builtinB s = true) : s = [108, 101, 110] ∨ s = [110, 111, 116] ∨ s = [97, 110, 100] ∨ s = [111, 114] ∨ s = [101, 113] ∨ s = [108, 116] ∨ s = [97, 100, 100] ∨ s = [115, 117, 98] ∨ s = [109, 117, 108] ∨ s = [115, 104, 108] ∨ s = [115, 104, 114] ∨ s = [105, 56] ∨ s = [105, 49, 54] ∨ s = [105, 51, 50] ∨ s = [117, 56] ∨ s = [117, 49, 54] ∨ s = [117, 51, 50] ∨ s = [99, 97, 116] ∨ s = [116, 101, 120, 116] ∨ s = [97, 116] ∨ s = [103, 101, 116] ∨ s = [104, 97, 115] ∨ s = [111, 114, 101, 108, 115, 101] := by
  unfold builtinB at h
  simpa using h
theorem Builtin_no (s : List UInt8) (h : builtinB s = false) : (s == [108, 101, 110]) = false ∧ (s == [110, 111, 116]) = false ∧ (s == [97, 110, 100]) = false ∧ (s == [111, 114]) = false ∧ (s == [101, 113]) = false ∧ (s == [108, 116]) = false ∧ (s == [97, 100, 100]) = false ∧ (s == [115, 117, 98]) = false ∧ (s == [109, 117, 108]) = false ∧ (s == [115, 104, 108]) = false ∧ (s == [115, 104, 114]) = false ∧ (s == [105, 56]) = false ∧ (s == [105, 49, 54]) = false ∧ (s == [105, 51, 50]) = false ∧ (s == [117, 56]) = false ∧ (s == [117, 49, 54]) = false ∧ (s == [117, 51, 50]) = false ∧ (s == [99, 97, 116]) = false ∧ (s == [116, 101, 120, 116]) = false ∧ (s == [97, 116]) = false ∧ (s == [103, 101, 116]) = false ∧ (s == [104, 97, 115]) = false ∧ (s == [111, 114, 101, 108, 115, 101]) = false := by
  unfold builtinB at h
  simpa using h
set_option maxHeartbeats 4000000 in
theorem Builtin_any (s : List UInt8) (w : World) :
    Calls Try.prog 26 #[.string ⟨s.toArray⟩] w fun e w' => e = .returned (.bool (builtinB s)) ∧ w = w' := by
  cases hb : builtinB s
  · have e1 := toList_mk' s
    obtain ⟨t0, t1, t2, t3, t4, t5, t6, t7, t8, t9, t10, t11, t12, t13, t14, t15, t16, t17, t18, t19, t20, t21, t22⟩ := Builtin_no s hb
    go_enter Try.func26, Try.ntmps26
    go_wp2
    go_ret
    exact ⟨rfl, rfl⟩
  · rcases Builtin_cases s hb with rfl | rfl | rfl | rfl | rfl | rfl | rfl | rfl | rfl | rfl | rfl | rfl | rfl | rfl | rfl | rfl | rfl | rfl | rfl | rfl | rfl | rfl | rfl
    all_goals
      go_enter Try.func26, Try.ntmps26
      go_wp2
      go_ret
      exact ⟨rfl, rfl⟩
end Sp
end Go.Proofs.Ytdophmlnmbcjlaa
namespace Go.Proofs.Ytdophmlnmbcjlaa
open Go.RowKit
namespace Sp
open Sc
structure G6 where
  ap : Option Addr
  lp : Nat
  cp : Nat
  c : C4
deriving Inhabited
def encG (x : List UInt8 × G6) : List Value := [str x.1, .slice x.2.ap x.2.lp x.2.cp, .int .i64 x.2.c.k, .string x.2.c.n, .slice x.2.c.an x.2.c.ln x.2.c.cn, .slice x.2.c.ak x.2.c.lk x.2.c.ck]
/-- A function of a schema at six cells. -/
structure SgV (w : World) (S : Nat → Prop) (g : Sg) (x : List UInt8 × G6) : Prop where
  name : x.1 = g.name
  len : x.2.lp = g.params.length
  par : ∃ ps : List C4, ps.length = g.params.length ∧ RowV w S x.2.ap 4 (ps.map C4.cells) ∧ ∀ i (h : i < g.params.length) (h' : i < ps.length), TzV w S g.params[i] ps[i]
  res : TzV w S g.result x.2.c
theorem SgV.keep {w w' : World} {S : Nat → Prop} {g : Sg} {x : List UInt8 × G6} (h : SgV w S g x) (hk : ∀ g, S g → w'.heap[g]? = w.heap[g]?) : SgV w' S g x := by
  obtain ⟨h1, h2, ⟨ps, p1, p2, p3⟩, h4⟩ := h
  exact ⟨h1, h2, ⟨ps, p1, p2.keep (fun _ h => h) hk, fun i h h' => (p3 i h h').keep (fun _ h => h) hk⟩, h4.keep (fun _ h => h) hk⟩
theorem six_blk {w : World} {b : Nat} {t : TypeId} {v0 v1 v2 v3 v4 v5 : Value} (h : w.heap[b]? = some (.cells #[v0, v1, v2, v3, v4, v5] t (0, 0))) :
    (w.cell? ⟨b, 0, none⟩ = some v0 ∧ w.cell? ⟨b, 1, none⟩ = some v1 ∧ w.cell? ⟨b, 2, none⟩ = some v2 ∧ w.cell? ⟨b, 3, none⟩ = some v3 ∧ w.cell? ⟨b, 4, none⟩ = some v4 ∧ w.cell? ⟨b, 5, none⟩ = some v5) := by
  refine ⟨?_, ?_, ?_, ?_, ?_, ?_⟩ <;> simp [World.cell?, h]
def fitG (g : Sg) : Bool := decide (g.name.length ≤ maxLen) && decide (g.params.length ≤ maxLen) && fitZs g.params && fitZ g.result
theorem fnZ_le (has : List UInt8 → Bool) (g : Sg) (a : List UInt8) (n : Nat) (hn : n ≤ 400) (h0 : (fnZ has n a g).1 = 0) : (fnZ has n a g).2 ≤ 400 := by
  unfold fnZ at h0 ⊢
  split
  · exact hn
  · rename_i h; rw [if_neg h] at h0
    split
    · exact hn
    · rename_i h2; rw [if_neg h2] at h0
      split
      · rename_i h3; rw [if_pos h3] at h0; exact absurd h0 h3
      · rename_i h3; rw [if_neg h3] at h0
        exact oneZ_le has _ 1 _ (allZ_le has _ 1 n hn (by simpa using h3)) h0
set_option maxRecDepth 100000 in
set_option maxHeartbeats 16000000 in
theorem function_any (cb mb : Nat) (l : List (List UInt8 × C4)) (S : Nat → Prop) (g : Sg) (x : List UInt8 × G6) (a : List UInt8) (n : Nat) (w : World) (hS : ∀ g, S g → g < cb) (hm : mb ≠ cb) (hf : fitG g = true)
    (hn : n ≤ 400) (hV : SgV w S g x) (hC : CkE w cb mb n) (hM : MapV w mb l) :
    Calls Try.prog 69 #[.pointer (some ⟨cb, 0, none⟩), .string ⟨a.toArray⟩, .agg #[.string ⟨x.1.toArray⟩, .slice x.2.ap x.2.lp x.2.cp, .int .i64 x.2.c.k, .string x.2.c.n, .slice x.2.c.an x.2.c.ln x.2.c.cn, .slice x.2.c.ak x.2.c.lk x.2.c.ck]] w fun e w' =>
      e = .returned (.int .i64 (fnZ (hasZ l) n a g).1) ∧ CkE w' cb mb (fnZ (hasZ l) n a g).2 ∧ Only cb w w' := by
  unfold fitG at hf
  simp only [Bool.and_eq_true, decide_eq_true_eq] at hf
  obtain ⟨⟨⟨f1, f2⟩, f3⟩, f4⟩ := hf
  have hcb := hC.lt
  obtain ⟨v, hv⟩ : ∃ v, v = fnZ (hasZ l) n a g := ⟨_, rfl⟩
  rw [← hv]
  unfold fnZ at hv
  obtain ⟨nm, ⟨ap, lp, cp, ⟨x1, x2, x3, x4, x5, x6, x7, x8⟩⟩⟩ := x
  obtain ⟨h1, h2, ⟨ps, q1, q2, q3⟩, h4⟩ := hV
  dsimp only at h1 h2 q2 h4 ⊢
  subst h1 h2
  obtain ⟨W0, hW0⟩ : ∃ W0, W0 = w.alloc (.cells #[.string ⟨g.name.toArray⟩, .slice ap g.params.length cp, .int .i64 x1, .string x2, .slice x3 x4 x5, .slice x6 x7 x8] 46) := ⟨_, rfl⟩
  have hs0 : W0.heap.size = w.heap.size + 1 := by rw [hW0]; simp
  have hb0 : Below w.heap.size w W0 := by rw [hW0]; exact (Below.refl _ _).alloc (Nat.le_refl _) _
  have hx0 : W0.heap[w.heap.size]? = some (.cells #[.string ⟨g.name.toArray⟩, .slice ap g.params.length cp, .int .i64 x1, .string x2, .slice x3 x4 x5, .slice x6 x7 x8] 46 (0, 0)) := by rw [hW0]; exact heap_alloc_new w _
  have kb : ∀ W, Only cb W0 W → ∀ g, g < cb → W.heap[g]? = w.heap[g]? := fun W hB g hg => (hB.block g (by omega) (fun e => by cases e; omega)).trans (hb0.block g (by omega))
  have CN := fun W => nameError_any a g.name (builtinB g.name) W f1
  have CB := fun W => Builtin_any g.name W
  have CA := fun W (hB : Only cb W0 W) (hCk : CkE W cb mb n) => all_any cb mb l S g.params ps ap cp 1 n W hS hm (by omega) hn q1 f2 (q2.keep (fun _ h => h) (fun g hg => kb W hB g (hS g hg))) (fun i h h' => (q3 i h h').keep (fun _ h => h) (fun g hg => kb W hB g (hS g hg))) hCk ((hM.below hb0).keep hB (fun e => hm (by cases e; rfl))) (fun i h => oneP cb mb l S hS hm _ (fitZs_mem _ f3 i h))
  have CO := fun W (m : Nat) (hB : Only cb W0 W) (h4m : m ≤ 400) (hCk : CkE W cb mb m) => oneP cb mb l S hS hm g.result f4 1 m W ⟨x1, x2, x3, x4, x5, x6, x7, x8⟩ (by omega) h4m (h4.keep (fun _ h => h) (fun g hg => kb W hB g (hS g hg))) hCk ((hM.below hb0).keep hB (fun e => hm (by cases e; rfl)))
  have hC0 := hC.below hb0
  have hle := allZ_le (hasZ l) g.params 1 n hn
  unfold C4.val at CO
  dsimp only at CO
  have HB0 := Lib.hid hb0; have HC0 := Lib.hid hC0; have HX0 := Lib.hid hx0; have HCN := Lib.hid CN; have HCB := Lib.hid CB; have HCA := Lib.hid CA; have HCO := Lib.hid CO; have HW0 := Lib.hid hW0; have HS0 := Lib.hid hs0; have HLE := Lib.hid hle
  have hcw : cb ≠ w.heap.size := by omega
  have fl : w.heap.size < W0.drew.heap.size := by show w.heap.size < W0.heap.size; omega
  have f0 : W0.drew.cell? ⟨w.heap.size, 0, none⟩ = some (.string ⟨g.name.toArray⟩) := (six_blk hx0).1
  unfold maxLen at f2
  clear hb0 hC0 hx0 CN CB CA CO hW0 hs0 kb hC hM h4 q1 q2 q3 hS hm f3 f4 hle f1
  generalize g.name = nm at *
  generalize g.params = pl at *
  generalize g.result = gr at *
  by_cases hne : nameE a nm (builtinB nm) ≠ 0
  · rw [if_pos hne] at hv
    have hnz : (nameE a nm (builtinB nm) : Int) ≠ 0 := by omega
    have t0 : ((nameE a nm (builtinB nm) : Nat) == (0 : Int)) = false := by simp; omega
    generalize builtinB nm = bb at *
    generalize nameE a nm bb = ne at *
    subst hv
    go_enter Try.func69, Try.ntmps69
    go_wp2_with fail
    rw [← HW0.out]
    have f1 : W0.cell? ⟨w.heap.size, 0, none⟩ = some (.string ⟨nm.toArray⟩) := f0
    go_region_held3 (fun w' => w'.cell? ⟨w.heap.size, 0, none⟩ = some (.string ⟨nm.toArray⟩)) (go_keep) (first
      | (go_at_call 26; (with_reducible refine (HCB.out _).mono ?_); rintro e w1 ⟨rfl, rfl⟩)
      | (go_at_call 66; (with_reducible refine (HCN.out _).mono ?_); rintro e w1 ⟨rfl, hb1⟩; have n1 := (hb1.cell (p := ⟨w.heap.size, 0, none⟩) fl).trans f0))
    all_goals
      have HB1 := Lib.hid (show Below W0.heap.size W0 w1 from ⟨hb1.os, hb1.tape, hb1.output, hb1.size, hb1.block⟩)
      have HO1 := Lib.hid (Only.of_below (rb := cb) HB1.out)
      have HC1 := Lib.hid (HC0.out.below HB1.out)
      clear f1 f0 fl n1 hb1
      obtain ⟨p0, p1, p2, p3, p4, p5⟩ := six_blk ((HB1.out.block w.heap.size (by rw [HS0.out]; omega)).trans HX0.out)
    all_goals
      go_wp2
      go_ret
      exact ⟨rfl, HC0.out.below HB1.out, (Only.of_below HB0.out).trans (Only.of_below HB1.out)⟩
  · rw [if_neg hne] at hv
    have CN2 := HCN.out
    simp only [show nameE a nm (builtinB nm) = 0 by omega] at CN2
    have HCN := Lib.hid CN2
    clear CN2 hne
    generalize builtinB nm = bb at *
    by_cases h4p : 4 < pl.length
    · rw [if_pos h4p] at hv
      have h4z : 4 < (pl.length : Int) := by omega
      subst hv
      go_enter Try.func69, Try.ntmps69
      go_wp2_with fail
      rw [← HW0.out]
      have f1 : W0.cell? ⟨w.heap.size, 0, none⟩ = some (.string ⟨nm.toArray⟩) := f0
      go_region_held3 (fun w' => w'.cell? ⟨w.heap.size, 0, none⟩ = some (.string ⟨nm.toArray⟩)) (go_keep) (first
        | (go_at_call 26; (with_reducible refine (HCB.out _).mono ?_); rintro e w1 ⟨rfl, rfl⟩)
        | (go_at_call 66; (with_reducible refine (HCN.out _).mono ?_); rintro e w1 ⟨rfl, hb1⟩; have n1 := (hb1.cell (p := ⟨w.heap.size, 0, none⟩) fl).trans f0))
      all_goals
        have HB1 := Lib.hid (show Below W0.heap.size W0 w1 from ⟨hb1.os, hb1.tape, hb1.output, hb1.size, hb1.block⟩)
        have HO1 := Lib.hid (Only.of_below (rb := cb) HB1.out)
        have HC1 := Lib.hid (HC0.out.below HB1.out)
        clear f1 f0 fl n1 hb1
        obtain ⟨p0, p1, p2, p3, p4, p5⟩ := six_blk ((HB1.out.block w.heap.size (by rw [HS0.out]; omega)).trans HX0.out)
      all_goals
        go_wp2
        go_ret
        exact ⟨rfl, HC0.out.below HB1.out, (Only.of_below HB0.out).trans (Only.of_below HB1.out)⟩
    · rw [if_neg h4p] at hv
      have h4z : ¬ 4 < (pl.length : Int) := by omega
      obtain ⟨⟨r1, r2⟩, hr⟩ : ∃ r, r = allZ (hasZ l) 1 n pl := ⟨_, rfl⟩
      rw [← hr] at HCA HLE hv
      clear hr
      dsimp only at *
      by_cases hr0 : r1 = 0
      · subst hr0
        rw [if_neg (by simp)] at hv
        obtain ⟨⟨u1, u2⟩, hu⟩ : ∃ u, u = oneZ (hasZ l) 1 r2 gr := ⟨_, rfl⟩
        have CO2 := fun W => HCO.out W r2
        rw [← hu] at CO2 hv
        have HCO2 := Lib.hid CO2
        clear hu CO2
        subst hv
        go_enter Try.func69, Try.ntmps69
        go_wp2_with fail
        rw [← HW0.out]
        have f1 : W0.cell? ⟨w.heap.size, 0, none⟩ = some (.string ⟨nm.toArray⟩) := f0
        go_region_held3 (fun w' => w'.cell? ⟨w.heap.size, 0, none⟩ = some (.string ⟨nm.toArray⟩)) (go_keep) (first
          | (go_at_call 26; (with_reducible refine (HCB.out _).mono ?_); rintro e w1 ⟨rfl, rfl⟩)
          | (go_at_call 66; (with_reducible refine (HCN.out _).mono ?_); rintro e w1 ⟨rfl, hb1⟩; have n1 := (hb1.cell (p := ⟨w.heap.size, 0, none⟩) fl).trans f0))
        all_goals
          have HB1 := Lib.hid (show Below W0.heap.size W0 w1 from ⟨hb1.os, hb1.tape, hb1.output, hb1.size, hb1.block⟩)
          have HO1 := Lib.hid (Only.of_below (rb := cb) HB1.out)
          have HC1 := Lib.hid (HC0.out.below HB1.out)
          clear f1 f0 fl n1 hb1
          obtain ⟨p0, p1, p2, p3, p4, p5⟩ := six_blk ((HB1.out.block w.heap.size (by rw [HS0.out]; omega)).trans HX0.out)
        all_goals
          go_wp2_with (first
            | (go_at_call 90; (refine (HCA.out _ HO1.out HC1.out).mono ?_); rintro e w2 ⟨rfl, k2, o2⟩; have HC2 := Lib.hid k2; have HO2 := Lib.hid (HO1.out.trans o2); clear k2 o2 p0 p1 p2 p3 p4 p5; obtain ⟨p0, p1, p2, p3, p4, p5⟩ := six_blk ((HO2.out.block w.heap.size (by rw [HS0.out]; omega) (by simpa using fun e => hcw e.symm)).trans HX0.out))
            | (go_at_call 68; (refine (HCO2.out _ HO2.out (HLE.out (by trivial)) HC2.out).mono ?_); rintro e w3 ⟨rfl, k3, o3⟩; have HC3 := Lib.hid k3; have HO3 := Lib.hid (HO2.out.trans o3); clear k3 o3))
          go_ret
          exact ⟨rfl, HC3.out, (Only.of_below HB0.out).trans HO3.out⟩
      · rw [if_pos hr0] at hv
        have hnz : (r1 : Int) ≠ 0 := by omega
        have t0 : ((r1 : Nat) == (0 : Int)) = false := by simp; omega
        subst hv
        go_enter Try.func69, Try.ntmps69
        go_wp2_with fail
        rw [← HW0.out]
        have f1 : W0.cell? ⟨w.heap.size, 0, none⟩ = some (.string ⟨nm.toArray⟩) := f0
        go_region_held3 (fun w' => w'.cell? ⟨w.heap.size, 0, none⟩ = some (.string ⟨nm.toArray⟩)) (go_keep) (first
          | (go_at_call 26; (with_reducible refine (HCB.out _).mono ?_); rintro e w1 ⟨rfl, rfl⟩)
          | (go_at_call 66; (with_reducible refine (HCN.out _).mono ?_); rintro e w1 ⟨rfl, hb1⟩; have n1 := (hb1.cell (p := ⟨w.heap.size, 0, none⟩) fl).trans f0))
        all_goals
          have HB1 := Lib.hid (show Below W0.heap.size W0 w1 from ⟨hb1.os, hb1.tape, hb1.output, hb1.size, hb1.block⟩)
          have HO1 := Lib.hid (Only.of_below (rb := cb) HB1.out)
          have HC1 := Lib.hid (HC0.out.below HB1.out)
          clear f1 f0 fl n1 hb1
          obtain ⟨p0, p1, p2, p3, p4, p5⟩ := six_blk ((HB1.out.block w.heap.size (by rw [HS0.out]; omega)).trans HX0.out)
        all_goals
          go_wp2_with (go_at_call 90; (refine (HCA.out _ HO1.out HC1.out).mono ?_); rintro e w2 ⟨rfl, k2, o2⟩; have HC2 := Lib.hid k2; have HO2 := Lib.hid (HO1.out.trans o2); clear k2 o2)
          go_ret
          exact ⟨rfl, HC2.out, (Only.of_below HB0.out).trans HO2.out⟩
end Sp
end Go.Proofs.Ytdophmlnmbcjlaa
