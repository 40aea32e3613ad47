/- sprueref3's SameSchema, of two schemas that are the same. -/
import Derived.Test.YtnnnjonodnkccaaGreatDoorRSame
import Derived.Test.YtnnnjonodnkccaaGreatDoorSParseV
namespace Go.Proofs.YtnnnjonodnkccaaGreatDoor
open Go.RowKit
namespace Sh
open Sc

instance : Inhabited NE := ⟨([], default, default)⟩
instance : Inhabited G5 := ⟨⟨none, 0, 0, default⟩⟩
instance : Inhabited SE := ⟨([], default, default)⟩
theorem nam_cells {w : World} {wb : Nat} {S : Nat → Prop} {ak : Option Addr} {us : List NE} (h : Cells w S ak (us.flatMap encN)) (hS : ∀ g, S g → g < wb) (k : Nat) (hk : k < us.length) :
    ∃ g, ak = some ⟨g, 0, none⟩ ∧ ∀ W, Below wb w W → W.cell? ⟨g, k * 5, none⟩ = some (.string ⟨us[k].1.toArray⟩) ∧ W.cell? ⟨g, k * 5 + 1, none⟩ = some (.int .i64 us[k].2.1.k) ∧ W.cell? ⟨g, k * 5 + 2, none⟩ = some (.string us[k].2.1.n) ∧ W.cell? ⟨g, k * 5 + 3, none⟩ = some (.slice us[k].2.1.an us[k].2.1.ln us[k].2.1.cn) ∧ W.cell? ⟨g, k * 5 + 4, none⟩ = some (.slice us[k].2.1.ak us[k].2.1.lk us[k].2.1.ck) := by
  have hf := fun j hj => flat_get encN 5 (fun _ => rfl) us k j hk hj
  rw [getElem!_pos us k hk] at hf
  rcases h with h | ⟨g, ha, hg, hc⟩
  · have := hf 0 (by decide); rw [h] at this; simp [encN] at this
  · refine ⟨g, ha, fun W hW => ⟨?_, ?_, ?_, ?_, ?_⟩⟩
    · rw [hW.cell (p := ⟨g, k * 5, none⟩) (hS g hg)]; exact hc _ _ (hf 0 (by decide))
    · rw [hW.cell (p := ⟨g, k * 5 + 1, none⟩) (hS g hg)]; exact hc _ _ (hf 1 (by decide))
    · rw [hW.cell (p := ⟨g, k * 5 + 2, none⟩) (hS g hg)]; exact hc _ _ (hf 2 (by decide))
    · rw [hW.cell (p := ⟨g, k * 5 + 3, none⟩) (hS g hg)]; exact hc _ _ (hf 3 (by decide))
    · rw [hW.cell (p := ⟨g, k * 5 + 4, none⟩) (hS g hg)]; exact hc _ _ (hf 4 (by decide))

theorem sig_cells {w : World} {wb : Nat} {S : Nat → Prop} {ak : Option Addr} {us : List SE} (h : Cells w S ak (us.flatMap encS)) (hS : ∀ g, S g → g < wb) (k : Nat) (hk : k < us.length) :
    ∃ g, ak = some ⟨g, 0, none⟩ ∧ ∀ W, Below wb w W → W.cell? ⟨g, k * 6, none⟩ = some (.string ⟨us[k].1.toArray⟩) ∧ W.cell? ⟨g, k * 6 + 1, none⟩ = some (.slice us[k].2.1.ap us[k].2.1.lp us[k].2.1.cp) ∧ W.cell? ⟨g, k * 6 + 2, none⟩ = some (.int .i64 us[k].2.1.c.k) ∧ W.cell? ⟨g, k * 6 + 3, none⟩ = some (.string us[k].2.1.c.n) ∧ W.cell? ⟨g, k * 6 + 4, none⟩ = some (.slice us[k].2.1.c.an us[k].2.1.c.ln us[k].2.1.c.cn) ∧ W.cell? ⟨g, k * 6 + 5, none⟩ = some (.slice us[k].2.1.c.ak us[k].2.1.c.lk us[k].2.1.c.ck) := by
  have hf := fun j hj => flat_get encS 6 (fun _ => rfl) us k j hk hj
  rw [getElem!_pos us k hk] at hf
  rcases h with h | ⟨g, ha, hg, hc⟩
  · have := hf 0 (by decide); rw [h] at this; simp [encS] at this
  · refine ⟨g, ha, fun W hW => ⟨?_, ?_, ?_, ?_, ?_, ?_⟩⟩
    · rw [hW.cell (p := ⟨g, k * 6, none⟩) (hS g hg)]; exact hc _ _ (hf 0 (by decide))
    · rw [hW.cell (p := ⟨g, k * 6 + 1, none⟩) (hS g hg)]; exact hc _ _ (hf 1 (by decide))
    · rw [hW.cell (p := ⟨g, k * 6 + 2, none⟩) (hS g hg)]; exact hc _ _ (hf 2 (by decide))
    · rw [hW.cell (p := ⟨g, k * 6 + 3, none⟩) (hS g hg)]; exact hc _ _ (hf 3 (by decide))
    · rw [hW.cell (p := ⟨g, k * 6 + 4, none⟩) (hS g hg)]; exact hc _ _ (hf 4 (by decide))
    · rw [hW.cell (p := ⟨g, k * 6 + 5, none⟩) (hS g hg)]; exact hc _ _ (hf 5 (by decide))


theorem cell_lt {w : World} {g o : Nat} {v : Value} (h : w.cell? ⟨g, o, none⟩ = some v) : g < w.heap.size := by
  rcases Nat.lt_or_ge g w.heap.size with h1 | h1
  · exact h1
  · unfold World.cell? at h; simp [Array.getElem?_eq_none h1] at h

/-- Every type of a schema is one that Same knows. -/
structure SchS (s : Sch) : Prop where
  main : SameT s.main
  types : ∀ y ∈ s.types, SameT y.2
  res : ∀ y ∈ s.sigs, SameT y.2.result
  par : ∀ y ∈ s.sigs, ∀ p ∈ y.2.params, SameT p
  nt : s.types.length ≤ 65536
  ns : s.sigs.length ≤ 65536
  np : ∀ y ∈ s.sigs, y.2.params.length ≤ 65536

set_option maxRecDepth 100000 in
set_option maxHeartbeats 8000000 in
theorem sameSch_any (s : Sch) (hs : SchS s) (w : World) (S S' : Nat → Prop) (c d : C4) (a1 a2 b1 b2 : Option Addr) (n1 n2 m1 m2 k1 k2 : Nat) (hc : SchV w S s c a1 n1 a2 n2) (hd : SchV w S' s d b1 n1 b2 n2) (hS : ∀ g, S g → g < w.heap.size) (hS' : ∀ g, S' g → g < w.heap.size) :
    Calls Tryz.prog 12 #[.agg #[.int .i64 c.k, .string c.n, .slice c.an c.ln c.cn, .slice c.ak c.lk c.ck, .slice a1 n1 m1, .slice a2 n2 m2], .agg #[.int .i64 d.k, .string d.n, .slice d.an d.ln d.cn, .slice d.ak d.lk d.ck, .slice b1 n1 k1, .slice b2 n2 k2]] w fun e w' => e = .returned (.bool true) ∧ Below w.heap.size w w' := by
  obtain ⟨hm, hn1, ⟨us, hus, hut, huv⟩, hn2, ⟨vs, hvs, hvt, hvv⟩⟩ := hc
  obtain ⟨hm', hx1, ⟨us', hus', hut', huv'⟩, hx2, ⟨vs', hvs', hvt', hvv'⟩⟩ := hd
  have hb0 : ∀ x y : Obj, Below w.heap.size w ((w.alloc x).alloc y) := fun x y => ((Below.refl _ _).alloc (Nat.le_refl _) _).alloc (by simp) _
  have kp : ∀ (W : World) (t : Ty) (c : C4), Below w.heap.size w W → TyV w S t c → TyV W S t c := fun W t c hb h => h.keep (fun _ h => h) (fun g hg => hb.block g (hS g hg))
  have kp' : ∀ (W : World) (t : Ty) (c : C4), Below w.heap.size w W → TyV w S' t c → TyV W S' t c := fun W t c hb h => h.keep (fun _ h => h) (fun g hg => hb.block g (hS' g hg))
  have CM : ∀ W, Below w.heap.size w W → Calls Tryz.prog 11 #[c.val, d.val] W fun e w' => e = .returned (.bool true) ∧ Below W.heap.size W w' := fun W hb =>
    hs.main W S S' c d (kp W _ _ hb hm) (kp' W _ _ hb hm') (fun g hg => Nat.lt_of_lt_of_le (hS g hg) hb.size) (fun g hg => Nat.lt_of_lt_of_le (hS' g hg) hb.size)
  have hl : us.length = n1 := by rw [hn1, ← hus, List.length_map]
  have hl' : us'.length = n1 := by rw [hn1, ← hus', List.length_map]
  have hnt : n1 ≤ 65536 := by rw [hn1]; exact hs.nt
  have CT : ∀ W, Below w.heap.size w W → ∀ k (h : k < us.length) (h' : k < us'.length), us'[k].1 = us[k].1 ∧ Calls Tryz.prog 11 #[us[k].2.1.val, us'[k].2.1.val] W fun e w' => e = .returned (.bool true) ∧ Below W.heap.size W w' := by
    intro W hb k h h'
    have h3 : k < s.types.length := by omega
    have e1 : (us[k].1, us[k].2.2) = s.types[k]'(by omega) := by
      have : (us.map fun y => (y.1, y.2.2))[k]'(by rw [List.length_map]; exact h) = s.types[k]'(by omega) := by congr 1
      rw [← this, List.getElem_map]
    have e2 : (us'[k].1, us'[k].2.2) = s.types[k]'(by omega) := by
      have : (us'.map fun y => (y.1, y.2.2))[k]'(by rw [List.length_map]; exact h') = s.types[k]'(by omega) := by congr 1
      rw [← this, List.getElem_map]
    have e3 := e2.trans e1.symm
    refine ⟨congrArg (·.1) e3, ?_⟩
    have h1 := kp W _ _ hb (huv us[k] (List.getElem_mem _))
    have h2 := kp' W _ _ hb (huv' us'[k] (List.getElem_mem _))
    rw [show us'[k].2.2 = us[k].2.2 from congrArg (·.2) e3] at h2
    exact (show SameT us[k].2.2 from by have := hs.types _ (List.getElem_mem h3); rw [← e1] at this; exact this) W S S' _ _ h1 h2 (fun g hg => Nat.lt_of_lt_of_le (hS g hg) hb.size) (fun g hg => Nat.lt_of_lt_of_le (hS' g hg) hb.size)
  have hv : vs.length = n2 := by rw [hn2, ← hvs, List.length_map]
  have hv' : vs'.length = n2 := by rw [hn2, ← hvs', List.length_map]
  have hns : n2 ≤ 65536 := by rw [hn2]; exact hs.ns
  have CS : ∀ k (h : k < vs.length) (h' : k < vs'.length), vs'[k].1 = vs[k].1 ∧ vs'[k].2.1.lp = vs[k].2.1.lp ∧ vs[k].2.1.lp ≤ 65536 ∧
      (∀ W, Below w.heap.size w W → Calls Tryz.prog 11 #[vs[k].2.1.c.val, vs'[k].2.1.c.val] W fun e w' => e = .returned (.bool true) ∧ Below W.heap.size W w') ∧
      ∃ ps ps' : List C4, ps.length = vs[k].2.1.lp ∧ ps'.length = vs[k].2.1.lp ∧ Cells w S vs[k].2.1.ap (ps.flatMap C4.cells) ∧ Cells w S' vs'[k].2.1.ap (ps'.flatMap C4.cells) ∧
        ∀ j (hj : j < ps.length) (hj' : j < ps'.length) W, Below w.heap.size w W → Calls Tryz.prog 11 #[ps[j].val, ps'[j].val] W fun e w' => e = .returned (.bool true) ∧ Below W.heap.size W w' := by
    intro k h h'
    have h3 : k < s.sigs.length := by omega
    have e1 : (vs[k].1, vs[k].2.2) = s.sigs[k]'(by omega) := by
      have : (vs.map fun y => (y.1, y.2.2))[k]'(by rw [List.length_map]; exact h) = s.sigs[k]'(by omega) := by congr 1
      rw [← this, List.getElem_map]
    have e2 : (vs'[k].1, vs'[k].2.2) = s.sigs[k]'(by omega) := by
      have : (vs'.map fun y => (y.1, y.2.2))[k]'(by rw [List.length_map]; exact h') = s.sigs[k]'(by omega) := by congr 1
      rw [← this, List.getElem_map]
    have e3 := e2.trans e1.symm
    have hR := hs.res _ (List.getElem_mem h3)
    have hP := hs.par _ (List.getElem_mem h3)
    have hL := hs.np _ (List.getElem_mem h3)
    rw [← e1] at hR hP hL
    obtain ⟨⟨q1, ps, q2, q3, q4⟩, q5⟩ := hvv vs[k] (List.getElem_mem _)
    obtain ⟨⟨r1, ps', r2, r3, r4⟩, r5⟩ := hvv' vs'[k] (List.getElem_mem _)
    have e4 : vs'[k].2.2 = vs[k].2.2 := congrArg (·.2) e3
    rw [e4] at r1 r2 r5
    simp only [e4] at r4
    refine ⟨congrArg (·.1) e3, by rw [r1, q1], by rw [q1]; exact hL, fun W hb => hR W S S' _ _ (kp W _ _ hb q5) (kp' W _ _ hb r5) (fun g hg => Nat.lt_of_lt_of_le (hS g hg) hb.size) (fun g hg => Nat.lt_of_lt_of_le (hS' g hg) hb.size), ps, ps', by rw [q1, q2], by rw [q1, r2], q3, r3, fun j hj hj' W hb => ?_⟩
    exact hP _ (List.getElem_mem (by omega : j < vs[k].2.2.params.length)) W S S' _ _ (kp W _ _ hb (q4 j (by omega) hj)) (kp' W _ _ hb (r4 j (by omega) hj')) (fun g hg => Nat.lt_of_lt_of_le (hS g hg) hb.size) (fun g hg => Nat.lt_of_lt_of_le (hS' g hg) hb.size)
  obtain ⟨c1, c2, c3, c4, c5, c6, c7, c8⟩ := c
  obtain ⟨d1, d2, d3, d4, d5, d6, d7, d8⟩ := d
  obtain ⟨r0, r1⟩ := two_new w (.cells #[.int .i64 c1, .string c2, .slice c3 c4 c5, .slice c6 c7 c8, .slice a1 n1 m1, .slice a2 n2 m2] 36) (.cells #[.int .i64 d1, .string d2, .slice d3 d4 d5, .slice d6 d7 d8, .slice b1 n1 k1, .slice b2 n2 k2] 36)
  have s0 : ((w.alloc (.cells #[.int .i64 c1, .string c2, .slice c3 c4 c5, .slice c6 c7 c8, .slice a1 n1 m1, .slice a2 n2 m2] 36)).alloc (.cells #[.int .i64 d1, .string d2, .slice d3 d4 d5, .slice d6 d7 d8, .slice b1 n1 k1, .slice b2 n2 k2] 36)).heap.size = w.heap.size + 2 := by simp
  have R0 := Lib.hid r0; have R1 := Lib.hid r1; have HB0 := Lib.hid (hb0 (.cells #[.int .i64 c1, .string c2, .slice c3 c4 c5, .slice c6 c7 c8, .slice a1 n1 m1, .slice a2 n2 m2] 36) (.cells #[.int .i64 d1, .string d2, .slice d3 d4 d5, .slice d6 d7 d8, .slice b1 n1 k1, .slice b2 n2 k2] 36)); have HCM := Lib.hid CM; have HCT := Lib.hid CT; have HCS := Lib.hid CS; have S0 := Lib.hid s0
  have HUT := Lib.hid hut; have HUT' := Lib.hid hut'; have HVT := Lib.hid hvt; have HVT' := Lib.hid hvt'; have HSS := Lib.hid hS; have HSS' := Lib.hid hS'
  clear hs hm hus hut huv hvs hvt hvv hm' hus' hut' huv' hvs' hvt' hvv' hS hS' kp kp' CM CT CS hb0 r0 r1 s0 hn1 hn2 hx1 hx2
  unfold C4.val at *
  dsimp only at *
  go_enter Tryz.func12, Tryz.ntmps12
  go_wp2_with (go_at_call 11; (refine (HCM.out _ HB0.out).mono ?_); (rintro e w1 ⟨rfl, f1⟩; obtain ⟨⟨p0, p1, p2, p3, p4, p5⟩, _, _⟩ := six_blk ((f1.block w.heap.size (by rw [S0.out]; omega)).trans R0.out); obtain ⟨⟨q0, q1, q2, q3, q4, q5⟩, _, _⟩ := six_blk ((f1.block (w.heap.size + 1) (by rw [S0.out]; omega)).trans R1.out); have F1 := Lib.hid (f1.mono (Nat.le_of_eq S0.out.symm)); clear f1))
  clear p0 p1 p2 p3 p4 p5 q0 q1 q2 q3 q4 q5
  go_loopw [5] (fun i wr => ∃ k, LRel w ((w.alloc (.cells #[.int .i64 c1, .string c2, .slice c3 c4 c5, .slice c6 c7 c8, .slice a1 n1 m1, .slice a2 n2 m2] 36)).alloc (.cells #[.int .i64 d1, .string d2, .slice d3 d4 d5, .slice d6 d7 d8, .slice b1 n1 k1, .slice b2 n2 k2] 36)) n1 i wr k) (fun i _ => n1 - (intOf i).toNat)
  case atStart => exact ⟨0, rfl, Nat.zero_le _, F1.out⟩
  case round =>
    obtain ⟨k, rfl, hkl, hB⟩ := hrel
    have hBw := HB0.out.trans (hB.mono (by omega))
    have hws := hB.size
    rw [S0.out] at hws
    obtain ⟨⟨p0, p1, p2, p3, p4, p5⟩, _, _⟩ := six_blk ((hB.block w.heap.size (by omega)).trans R0.out)
    obtain ⟨⟨q0, q1, q2, q3, q4, q5⟩, _, _⟩ := six_blk ((hB.block (w.heap.size + 1) (by omega)).trans R1.out)
    have HB := Lib.hid hB; have HBW := Lib.hid hBw
    clear hB hBw
    by_cases hlt : k < n1
    · have hlu : k < us.length := by omega
      have hlu' : k < us'.length := by omega
      obtain ⟨g, rfl, hg⟩ := nam_cells HUT.out HSS.out k hlu
      obtain ⟨g', rfl, hg'⟩ := nam_cells HUT'.out HSS'.out k hlu'
      obtain ⟨m0, m1', m2', m3, m4⟩ := hg _ HBW.out.drew
      obtain ⟨l0, l1, l2, l3, l4⟩ := hg' _ HBW.out.drew
      have p4d : wr.drew.cell? ⟨w.heap.size, 4, none⟩ = some (.slice (some ⟨g, 0, none⟩) n1 m1) := p4
      have q4d : wr.drew.cell? ⟨w.heap.size + 1, 4, none⟩ = some (.slice (some ⟨g', 0, none⟩) n1 k1) := q4
      obtain ⟨hnm, C⟩ := HCT.out wr.drew HBW.out.drew k hlu hlu'
      rw [hnm] at l0
      have HC := Lib.hid C; have HG := Lib.hid hg; have HG' := Lib.hid hg'; have HNM := Lib.hid hnm
      have hkz : (k : Int) < (n1 : Int) := by omega
      have hk0 : (0 : Int) ≤ (k : Int) := by omega
      clear hg hg' C hnm
      generalize us[k] = x at *
      generalize us'[k] = y at *
      obtain ⟨xn, ⟨x1, x2, x3, x4, x5, x6, x7, x8⟩, xt⟩ := x
      obtain ⟨yn, ⟨y1, y2, y3, y4, y5, y6, y7, y8⟩, yt⟩ := y
      dsimp only at *
      go_wp2_with fail
      go_region_held3 (fun w' => w'.cell? ⟨w.heap.size, 4, none⟩ = some (.slice (some ⟨g, 0, none⟩) n1 m1) ∧ w'.cell? ⟨w.heap.size + 1, 4, none⟩ = some (.slice (some ⟨g', 0, none⟩) n1 k1) ∧ w'.cell? ⟨g, k * 5, none⟩ = some (.string ⟨xn.toArray⟩) ∧ w'.cell? ⟨g, k * 5 + 1, none⟩ = some (.int .i64 x1) ∧ w'.cell? ⟨g, k * 5 + 2, none⟩ = some (.string x2) ∧ w'.cell? ⟨g, k * 5 + 3, none⟩ = some (.slice x3 x4 x5) ∧ w'.cell? ⟨g, k * 5 + 4, none⟩ = some (.slice x6 x7 x8) ∧ w'.cell? ⟨g', k * 5, none⟩ = some (.string ⟨xn.toArray⟩) ∧ w'.cell? ⟨g', k * 5 + 1, none⟩ = some (.int .i64 y1) ∧ w'.cell? ⟨g', k * 5 + 2, none⟩ = some (.string y2) ∧ w'.cell? ⟨g', k * 5 + 3, none⟩ = some (.slice y3 y4 y5) ∧ w'.cell? ⟨g', k * 5 + 4, none⟩ = some (.slice y6 y7 y8)) (go_keep) (first
        | (go_at_call 11; (refine HC.out.mono ?_); rintro e w5 ⟨rfl, b5⟩; have hb5 := HBW.out.drew.trans (b5.mono HBW.out.size); have z3 := (b5.cell (p := ⟨w.heap.size, 4, none⟩) (show w.heap.size < wr.heap.size by omega)).trans p4d; have y3' := (b5.cell (p := ⟨w.heap.size + 1, 4, none⟩) (show w.heap.size + 1 < wr.heap.size by omega)).trans q4d; obtain ⟨m0', m1', m2', m3', m4'⟩ := HG.out _ hb5; have gg := HG'.out _ hb5; rw [show yn = xn from HNM.out] at gg; obtain ⟨l0', l1', l2', l3', l4'⟩ := gg))
      go_wp2
      go_roundw
      case rel => exact ⟨k + 1, by go_num, by omega, HB.out.drew.trans (b5.mono (by show _ ≤ wr.heap.size; omega))⟩
      case measure => simp [intOf]; omega
    · obtain rfl : n1 = k := by omega
      have hB := HB.out
      clear p0 p1 p2 p3 p4 p5 q0 q1 q2 q3 q4 q5 HB HBW hlt hkl hws
      obtain ⟨wx, hwx⟩ : ∃ wx, wx = wr := ⟨wr, rfl⟩
      subst hwx
      obtain ⟨⟨p0, p1, p2, p3, p4, p5⟩, _, _⟩ := six_blk ((hB.block w.heap.size (by omega)).trans R0.out)
      obtain ⟨⟨q0, q1, q2, q3, q4, q5⟩, _, _⟩ := six_blk ((hB.block (w.heap.size + 1) (by omega)).trans R1.out)
      have HB1 := Lib.hid hB
      clear hB
      go_wp2
      clear p0 p1 p2 p3 p4 p5 q0 q1 q2 q3 q4 q5
      go_loopw [6] (fun i wr => ∃ k, LRel w ((w.alloc (.cells #[.int .i64 c1, .string c2, .slice c3 c4 c5, .slice c6 c7 c8, .slice a1 n1 m1, .slice a2 n2 m2] 36)).alloc (.cells #[.int .i64 d1, .string d2, .slice d3 d4 d5, .slice d6 d7 d8, .slice b1 n1 k1, .slice b2 n2 k2] 36)) n2 i wr k) (fun i _ => n2 - (intOf i).toNat)
      case atStart => exact ⟨0, rfl, Nat.zero_le _, HB1.out⟩
      case round =>
        obtain ⟨k, rfl, hkl, hB⟩ := hrel
        have hBw := HB0.out.trans (hB.mono (by omega))
        have hws := hB.size
        rw [S0.out] at hws
        obtain ⟨⟨p0, p1, p2, p3, p4, p5⟩, _, _⟩ := six_blk ((hB.block w.heap.size (by omega)).trans R0.out)
        obtain ⟨⟨q0, q1, q2, q3, q4, q5⟩, _, _⟩ := six_blk ((hB.block (w.heap.size + 1) (by omega)).trans R1.out)
        have HB := Lib.hid hB; have HBW := Lib.hid hBw
        clear hB hBw
        by_cases hlt : k < n2
        · have hlu : k < vs.length := by omega
          have hlu' : k < vs'.length := by omega
          obtain ⟨g, rfl, hg⟩ := sig_cells HVT.out HSS.out k hlu
          obtain ⟨g', rfl, hg'⟩ := sig_cells HVT'.out HSS'.out k hlu'
          obtain ⟨m0, m1', m2', m3, m4, m5⟩ := hg _ HBW.out.drew
          obtain ⟨l0, l1, l2, l3, l4, l5⟩ := hg' _ HBW.out.drew
          have p5d : wr.drew.cell? ⟨w.heap.size, 5, none⟩ = some (.slice (some ⟨g, 0, none⟩) n2 m2) := p5
          have q5d : wr.drew.cell? ⟨w.heap.size + 1, 5, none⟩ = some (.slice (some ⟨g', 0, none⟩) n2 k2) := q5
          obtain ⟨hnm, hlp, hl6, hres, ps, ps', hps, hps', hcp, hcp', hpar⟩ := HCS.out k hlu hlu'
          obtain ⟨M0, M1, M2, M3, M4, M5⟩ := hg _ HBW.out
          obtain ⟨L0, L1, L2, L3, L4, L5⟩ := hg' _ HBW.out
          rw [hnm] at l0 L0
          rw [hlp] at l1 L1
          have glt : g < wr.heap.size := cell_lt m0
          have glt' : g' < wr.heap.size := cell_lt l0
          have gne : g ≠ wr.heap.size := by omega
          have gne' : g' ≠ wr.heap.size := by omega
          have gne1 : g ≠ wr.heap.size + 1 := by omega
          have gne1' : g' ≠ wr.heap.size + 1 := by omega
          have HRES := Lib.hid hres; have HCP := Lib.hid hcp; have HCP' := Lib.hid hcp'; have HPAR := Lib.hid hpar
          have hkz : (k : Int) < (n2 : Int) := by omega
          have hk0 : (0 : Int) ≤ (k : Int) := by omega
          clear hg hg' hnm hlp hres hcp hcp' hpar
          generalize vs[k] = x at *
          generalize vs'[k] = y at *
          obtain ⟨xn, ⟨xa, xl, xc, x1, x2, x3, x4, x5, x6, x7, x8⟩, xt⟩ := x
          obtain ⟨yn, ⟨ya, yl, yc, y1, y2, y3, y4, y5, y6, y7, y8⟩, yt⟩ := y
          dsimp only at *
          go_wp2_with fail
          go_region_held3 (fun w' => w'.cell? ⟨w.heap.size, 5, none⟩ = some (.slice (some ⟨g, 0, none⟩) n2 m2) ∧ w'.cell? ⟨w.heap.size + 1, 5, none⟩ = some (.slice (some ⟨g', 0, none⟩) n2 k2) ∧ w'.cell? ⟨g, k * 6, none⟩ = some (.string ⟨xn.toArray⟩) ∧ w'.cell? ⟨g, k * 6 + 1, none⟩ = some (.slice xa xl xc) ∧ w'.cell? ⟨g, k * 6 + 2, none⟩ = some (.int .i64 x1) ∧ w'.cell? ⟨g, k * 6 + 3, none⟩ = some (.string x2) ∧ w'.cell? ⟨g, k * 6 + 4, none⟩ = some (.slice x3 x4 x5) ∧ w'.cell? ⟨g, k * 6 + 5, none⟩ = some (.slice x6 x7 x8) ∧ w'.cell? ⟨g', k * 6, none⟩ = some (.string ⟨xn.toArray⟩) ∧ w'.cell? ⟨g', k * 6 + 1, none⟩ = some (.slice ya xl yc) ∧ w'.cell? ⟨g', k * 6 + 2, none⟩ = some (.int .i64 y1) ∧ w'.cell? ⟨g', k * 6 + 3, none⟩ = some (.string y2) ∧ w'.cell? ⟨g', k * 6 + 4, none⟩ = some (.slice y3 y4 y5) ∧ w'.cell? ⟨g', k * 6 + 5, none⟩ = some (.slice y6 y7 y8)) (go_keep) (fail)
          · obtain ⟨wo, hwo⟩ : ∃ wo, wo = wr := ⟨wr, rfl⟩
            subst hwo
            obtain ⟨t0, t1⟩ := two_new wo (.cells #[.string ⟨xn.toArray⟩, .slice xa xl xc, .int .i64 x1, .string x2, .slice x3 x4 x5, .slice x6 x7 x8] 61) (.cells #[.string ⟨xn.toArray⟩, .slice ya xl yc, .int .i64 y1, .string y2, .slice y3 y4 y5, .slice y6 y7 y8] 61)
            have t0 : ((wo.alloc (.cells #[.string ⟨xn.toArray⟩, .slice xa xl xc, .int .i64 x1, .string x2, .slice x3 x4 x5, .slice x6 x7 x8] 61)).alloc (.cells #[.string ⟨xn.toArray⟩, .slice ya xl yc, .int .i64 y1, .string y2, .slice y3 y4 y5, .slice y6 y7 y8] 61)).drew.heap[wo.heap.size]? = _ := t0
            have t1 : ((wo.alloc (.cells #[.string ⟨xn.toArray⟩, .slice xa xl xc, .int .i64 x1, .string x2, .slice x3 x4 x5, .slice x6 x7 x8] 61)).alloc (.cells #[.string ⟨xn.toArray⟩, .slice ya xl yc, .int .i64 y1, .string y2, .slice y3 y4 y5, .slice y6 y7 y8] 61)).drew.heap[wo.heap.size + 1]? = _ := t1
            have T0 := Lib.hid t0; have T1 := Lib.hid t1
            have hbW := ((HBW.out.alloc HBW.out.size (.cells #[.string ⟨xn.toArray⟩, .slice xa xl xc, .int .i64 x1, .string x2, .slice x3 x4 x5, .slice x6 x7 x8] 61)).alloc (by have := HBW.out.size; simp; omega) (.cells #[.string ⟨xn.toArray⟩, .slice ya xl yc, .int .i64 y1, .string y2, .slice y3 y4 y5, .slice y6 y7 y8] 61)).drew
            have hsW : ((wo.alloc (.cells #[.string ⟨xn.toArray⟩, .slice xa xl xc, .int .i64 x1, .string x2, .slice x3 x4 x5, .slice x6 x7 x8] 61)).alloc (.cells #[.string ⟨xn.toArray⟩, .slice ya xl yc, .int .i64 y1, .string y2, .slice y3 y4 y5, .slice y6 y7 y8] 61)).drew.heap.size = wo.heap.size + 2 := by show ((wo.alloc _).alloc _).heap.size = _; simp
            have CR := HRES.out _ hbW
            have HBWW := Lib.hid hbW; have HCR := Lib.hid CR; have HSW := Lib.hid hsW
            have hbX : Below (w.heap.size + 2) wo ((wo.alloc (.cells #[.string ⟨xn.toArray⟩, .slice xa xl xc, .int .i64 x1, .string x2, .slice x3 x4 x5, .slice x6 x7 x8] 61)).alloc (.cells #[.string ⟨xn.toArray⟩, .slice ya xl yc, .int .i64 y1, .string y2, .slice y3 y4 y5, .slice y6 y7 y8] 61)).drew := ((((Below.refl (w.heap.size + 2) wo).alloc hws (.cells #[.string ⟨xn.toArray⟩, .slice xa xl xc, .int .i64 x1, .string x2, .slice x3 x4 x5, .slice x6 x7 x8] 61))).alloc (by simp; omega) (.cells #[.string ⟨xn.toArray⟩, .slice ya xl yc, .int .i64 y1, .string y2, .slice y3 y4 y5, .slice y6 y7 y8] 61)).drew
            have HBX := Lib.hid hbX
            clear t0 t1 hbW CR hsW hbX m0 m1' m2' m3 m4 m5 l0 l1 l2 l3 l4 l5 M0 M1 M2 M3 M4 M5 L0 L1 L2 L3 L4 L5 p0 p1 p2 p3 p4 p5 q0 q1 q2 q3 q4 q5 p5d q5d
            go_wp2_with (go_at_call 11; (refine HCR.out.mono ?_); (rintro e w5 ⟨rfl, f5⟩; obtain ⟨⟨p0, p1, p2, p3, p4, p5⟩, _, _⟩ := six_blk ((f5.block wo.heap.size (by rw [HSW.out]; omega)).trans T0.out); obtain ⟨⟨q0, q1, q2, q3, q4, q5⟩, _, _⟩ := six_blk ((f5.block (wo.heap.size + 1) (by rw [HSW.out]; omega)).trans T1.out); have F5 := Lib.hid (f5.mono (Nat.le_of_eq HSW.out.symm)); clear f5))
            clear p0 p1 p2 p3 p4 p5 q0 q1 q2 q3 q4 q5
            go_loopw [9] (fun i wr => ∃ j : Nat, i = .int .i64 j ∧ j ≤ xl ∧ Below (wo.heap.size + 2) ((wo.alloc (.cells #[.string ⟨xn.toArray⟩, .slice xa xl xc, .int .i64 x1, .string x2, .slice x3 x4 x5, .slice x6 x7 x8] 61)).alloc (.cells #[.string ⟨xn.toArray⟩, .slice ya xl yc, .int .i64 y1, .string y2, .slice y3 y4 y5, .slice y6 y7 y8] 61)).drew wr) (fun i _ => xl - (intOf i).toNat)
            case atStart => exact ⟨0, rfl, Nat.zero_le _, F5.out⟩
            case round =>
              obtain ⟨j, rfl, hjl, hB3⟩ := hrel
              have hB3w := HBWW.out.trans (hB3.mono (by omega))
              have hw3 := hB3.size
              rw [HSW.out] at hw3
              obtain ⟨⟨p0, p1, p2, p3, p4, p5⟩, _, _⟩ := six_blk ((hB3.block wo.heap.size (by omega)).trans T0.out)
              obtain ⟨⟨q0, q1, q2, q3, q4, q5⟩, _, _⟩ := six_blk ((hB3.block (wo.heap.size + 1) (by omega)).trans T1.out)
              have HB3 := Lib.hid hB3; have HB3W := Lib.hid hB3w
              clear hB3 hB3w
              by_cases hjt : j < xl
              · have hju : j < ps.length := by omega
                have hju' : j < ps'.length := by omega
                obtain ⟨h, rfl, hh⟩ := kid_cells HCP.out HSS.out j hju
                obtain ⟨h', rfl, hh'⟩ := kid_cells HCP'.out HSS'.out j hju'
                obtain ⟨m0, m1', m2', m3⟩ := hh _ HB3W.out.drew
                obtain ⟨l0, l1, l2, l3⟩ := hh' _ HB3W.out.drew
                have p1d : wr.drew.cell? ⟨wo.heap.size, 1, none⟩ = some (.slice (some ⟨h, 0, none⟩) xl xc) := p1
                have q1d : wr.drew.cell? ⟨wo.heap.size + 1, 1, none⟩ = some (.slice (some ⟨h', 0, none⟩) xl yc) := q1
                have C := HPAR.out j hju hju' wr.drew HB3W.out.drew
                have HC := Lib.hid C; have HG := Lib.hid hh; have HG' := Lib.hid hh'
                have hjz : (j : Int) < (xl : Int) := by omega
                have hj0 : (0 : Int) ≤ (j : Int) := by omega
                clear hh hh' C
                generalize ps[j] = u at *
                generalize ps'[j] = v at *
                obtain ⟨u1, u2, u3, u4, u5, u6, u7, u8⟩ := u
                obtain ⟨v1, v2, v3, v4, v5, v6, v7, v8⟩ := v
                dsimp only at *
                go_wp2_with fail
                go_region_held3 (fun w' => w'.cell? ⟨wo.heap.size, 1, none⟩ = some (.slice (some ⟨h, 0, none⟩) xl xc) ∧ w'.cell? ⟨wo.heap.size + 1, 1, none⟩ = some (.slice (some ⟨h', 0, none⟩) xl yc) ∧ w'.cell? ⟨h, j * 4, none⟩ = some (.int .i64 u1) ∧ w'.cell? ⟨h, j * 4 + 1, none⟩ = some (.string u2) ∧ w'.cell? ⟨h, j * 4 + 2, none⟩ = some (.slice u3 u4 u5) ∧ w'.cell? ⟨h, j * 4 + 3, none⟩ = some (.slice u6 u7 u8) ∧ w'.cell? ⟨h', j * 4, none⟩ = some (.int .i64 v1) ∧ w'.cell? ⟨h', j * 4 + 1, none⟩ = some (.string v2) ∧ w'.cell? ⟨h', j * 4 + 2, none⟩ = some (.slice v3 v4 v5) ∧ w'.cell? ⟨h', j * 4 + 3, none⟩ = some (.slice v6 v7 v8)) (go_keep) (first
                  | (go_at_call 11; (refine HC.out.mono ?_); rintro e w6 ⟨rfl, b6⟩; have hb6 := HB3W.out.drew.trans (b6.mono HB3W.out.size); have z3 := (b6.cell (p := ⟨wo.heap.size, 1, none⟩) (show wo.heap.size < wr.heap.size by omega)).trans p1d; have z4 := (b6.cell (p := ⟨wo.heap.size + 1, 1, none⟩) (show wo.heap.size + 1 < wr.heap.size by omega)).trans q1d; obtain ⟨m0', m1'', m2'', m3'⟩ := HG.out _ hb6; obtain ⟨l0', l1', l2', l3'⟩ := HG'.out _ hb6))
                go_wp2
                go_roundw
                case rel => exact ⟨j + 1, by go_num, by omega, HB3.out.drew.trans (b6.mono (by show _ ≤ wr.heap.size; omega))⟩
                case measure => simp [intOf]; omega
              · obtain rfl : j = xl := by omega
                have HX := HB.out.trans (HBX.out.trans (HB3.out.mono (by omega)))
                go_wp2
                go_roundw
                case rel => exact ⟨k + 1, by go_num, by omega, HX⟩
                case measure => simp [intOf]; omega
          · obtain ⟨wo, hwo⟩ : ∃ wo, wo = wr := ⟨wr, rfl⟩
            subst hwo
            obtain ⟨t0, t1⟩ := two_new wo (.cells #[.string ⟨xn.toArray⟩, .slice ya xl yc, .int .i64 y1, .string y2, .slice y3 y4 y5, .slice y6 y7 y8] 61) (.cells #[.string ⟨xn.toArray⟩, .slice xa xl xc, .int .i64 x1, .string x2, .slice x3 x4 x5, .slice x6 x7 x8] 61)
            have t0 : ((wo.alloc (.cells #[.string ⟨xn.toArray⟩, .slice ya xl yc, .int .i64 y1, .string y2, .slice y3 y4 y5, .slice y6 y7 y8] 61)).alloc (.cells #[.string ⟨xn.toArray⟩, .slice xa xl xc, .int .i64 x1, .string x2, .slice x3 x4 x5, .slice x6 x7 x8] 61)).drew.heap[wo.heap.size]? = _ := t0
            have t1 : ((wo.alloc (.cells #[.string ⟨xn.toArray⟩, .slice ya xl yc, .int .i64 y1, .string y2, .slice y3 y4 y5, .slice y6 y7 y8] 61)).alloc (.cells #[.string ⟨xn.toArray⟩, .slice xa xl xc, .int .i64 x1, .string x2, .slice x3 x4 x5, .slice x6 x7 x8] 61)).drew.heap[wo.heap.size + 1]? = _ := t1
            have T0 := Lib.hid t1; have T1 := Lib.hid t0
            have hbW := ((HBW.out.alloc HBW.out.size (.cells #[.string ⟨xn.toArray⟩, .slice ya xl yc, .int .i64 y1, .string y2, .slice y3 y4 y5, .slice y6 y7 y8] 61)).alloc (by have := HBW.out.size; simp; omega) (.cells #[.string ⟨xn.toArray⟩, .slice xa xl xc, .int .i64 x1, .string x2, .slice x3 x4 x5, .slice x6 x7 x8] 61)).drew
            have hsW : ((wo.alloc (.cells #[.string ⟨xn.toArray⟩, .slice ya xl yc, .int .i64 y1, .string y2, .slice y3 y4 y5, .slice y6 y7 y8] 61)).alloc (.cells #[.string ⟨xn.toArray⟩, .slice xa xl xc, .int .i64 x1, .string x2, .slice x3 x4 x5, .slice x6 x7 x8] 61)).drew.heap.size = wo.heap.size + 2 := by show ((wo.alloc _).alloc _).heap.size = _; simp
            have CR := HRES.out _ hbW
            have HBWW := Lib.hid hbW; have HCR := Lib.hid CR; have HSW := Lib.hid hsW
            have hbX : Below (w.heap.size + 2) wo ((wo.alloc (.cells #[.string ⟨xn.toArray⟩, .slice ya xl yc, .int .i64 y1, .string y2, .slice y3 y4 y5, .slice y6 y7 y8] 61)).alloc (.cells #[.string ⟨xn.toArray⟩, .slice xa xl xc, .int .i64 x1, .string x2, .slice x3 x4 x5, .slice x6 x7 x8] 61)).drew := ((((Below.refl (w.heap.size + 2) wo).alloc hws (.cells #[.string ⟨xn.toArray⟩, .slice ya xl yc, .int .i64 y1, .string y2, .slice y3 y4 y5, .slice y6 y7 y8] 61))).alloc (by simp; omega) (.cells #[.string ⟨xn.toArray⟩, .slice xa xl xc, .int .i64 x1, .string x2, .slice x3 x4 x5, .slice x6 x7 x8] 61)).drew
            have HBX := Lib.hid hbX
            clear t0 t1 hbW CR hsW hbX m0 m1' m2' m3 m4 m5 l0 l1 l2 l3 l4 l5 M0 M1 M2 M3 M4 M5 L0 L1 L2 L3 L4 L5 p0 p1 p2 p3 p4 p5 q0 q1 q2 q3 q4 q5 p5d q5d
            go_wp2_with (go_at_call 11; (refine HCR.out.mono ?_); (rintro e w5 ⟨rfl, f5⟩; obtain ⟨⟨p0, p1, p2, p3, p4, p5⟩, _, _⟩ := six_blk ((f5.block (wo.heap.size + 1) (by rw [HSW.out]; omega)).trans T0.out); obtain ⟨⟨q0, q1, q2, q3, q4, q5⟩, _, _⟩ := six_blk ((f5.block (wo.heap.size) (by rw [HSW.out]; omega)).trans T1.out); have F5 := Lib.hid (f5.mono (Nat.le_of_eq HSW.out.symm)); clear f5))
            clear p0 p1 p2 p3 p4 p5 q0 q1 q2 q3 q4 q5
            go_loopw [9] (fun i wr => ∃ j : Nat, i = .int .i64 j ∧ j ≤ xl ∧ Below (wo.heap.size + 2) ((wo.alloc (.cells #[.string ⟨xn.toArray⟩, .slice ya xl yc, .int .i64 y1, .string y2, .slice y3 y4 y5, .slice y6 y7 y8] 61)).alloc (.cells #[.string ⟨xn.toArray⟩, .slice xa xl xc, .int .i64 x1, .string x2, .slice x3 x4 x5, .slice x6 x7 x8] 61)).drew wr) (fun i _ => xl - (intOf i).toNat)
            case atStart => exact ⟨0, rfl, Nat.zero_le _, F5.out⟩
            case round =>
              obtain ⟨j, rfl, hjl, hB3⟩ := hrel
              have hB3w := HBWW.out.trans (hB3.mono (by omega))
              have hw3 := hB3.size
              rw [HSW.out] at hw3
              obtain ⟨⟨p0, p1, p2, p3, p4, p5⟩, _, _⟩ := six_blk ((hB3.block (wo.heap.size + 1) (by omega)).trans T0.out)
              obtain ⟨⟨q0, q1, q2, q3, q4, q5⟩, _, _⟩ := six_blk ((hB3.block (wo.heap.size) (by omega)).trans T1.out)
              have HB3 := Lib.hid hB3; have HB3W := Lib.hid hB3w
              clear hB3 hB3w
              by_cases hjt : j < xl
              · have hju : j < ps.length := by omega
                have hju' : j < ps'.length := by omega
                obtain ⟨h, rfl, hh⟩ := kid_cells HCP.out HSS.out j hju
                obtain ⟨h', rfl, hh'⟩ := kid_cells HCP'.out HSS'.out j hju'
                obtain ⟨m0, m1', m2', m3⟩ := hh _ HB3W.out.drew
                obtain ⟨l0, l1, l2, l3⟩ := hh' _ HB3W.out.drew
                have p1d : wr.drew.cell? ⟨wo.heap.size + 1, 1, none⟩ = some (.slice (some ⟨h, 0, none⟩) xl xc) := p1
                have q1d : wr.drew.cell? ⟨wo.heap.size, 1, none⟩ = some (.slice (some ⟨h', 0, none⟩) xl yc) := q1
                have C := HPAR.out j hju hju' wr.drew HB3W.out.drew
                have HC := Lib.hid C; have HG := Lib.hid hh; have HG' := Lib.hid hh'
                have hjz : (j : Int) < (xl : Int) := by omega
                have hj0 : (0 : Int) ≤ (j : Int) := by omega
                clear hh hh' C
                generalize ps[j] = u at *
                generalize ps'[j] = v at *
                obtain ⟨u1, u2, u3, u4, u5, u6, u7, u8⟩ := u
                obtain ⟨v1, v2, v3, v4, v5, v6, v7, v8⟩ := v
                dsimp only at *
                go_wp2_with fail
                go_region_held3 (fun w' => w'.cell? ⟨wo.heap.size + 1, 1, none⟩ = some (.slice (some ⟨h, 0, none⟩) xl xc) ∧ w'.cell? ⟨wo.heap.size, 1, none⟩ = some (.slice (some ⟨h', 0, none⟩) xl yc) ∧ w'.cell? ⟨h, j * 4, none⟩ = some (.int .i64 u1) ∧ w'.cell? ⟨h, j * 4 + 1, none⟩ = some (.string u2) ∧ w'.cell? ⟨h, j * 4 + 2, none⟩ = some (.slice u3 u4 u5) ∧ w'.cell? ⟨h, j * 4 + 3, none⟩ = some (.slice u6 u7 u8) ∧ w'.cell? ⟨h', j * 4, none⟩ = some (.int .i64 v1) ∧ w'.cell? ⟨h', j * 4 + 1, none⟩ = some (.string v2) ∧ w'.cell? ⟨h', j * 4 + 2, none⟩ = some (.slice v3 v4 v5) ∧ w'.cell? ⟨h', j * 4 + 3, none⟩ = some (.slice v6 v7 v8)) (go_keep) (first
                  | (go_at_call 11; (refine HC.out.mono ?_); rintro e w6 ⟨rfl, b6⟩; have hb6 := HB3W.out.drew.trans (b6.mono HB3W.out.size); have z3 := (b6.cell (p := ⟨wo.heap.size + 1, 1, none⟩) (show wo.heap.size + 1 < wr.heap.size by omega)).trans p1d; have z4 := (b6.cell (p := ⟨wo.heap.size, 1, none⟩) (show wo.heap.size < wr.heap.size by omega)).trans q1d; obtain ⟨m0', m1'', m2'', m3'⟩ := HG.out _ hb6; obtain ⟨l0', l1', l2', l3'⟩ := HG'.out _ hb6))
                go_wp2
                go_roundw
                case rel => exact ⟨j + 1, by go_num, by omega, HB3.out.drew.trans (b6.mono (by show _ ≤ wr.heap.size; omega))⟩
                case measure => simp [intOf]; omega
              · obtain rfl : j = xl := by omega
                have HX := HB.out.trans (HBX.out.trans (HB3.out.mono (by omega)))
                go_wp2
                go_roundw
                case rel => exact ⟨k + 1, by go_num, by omega, HX⟩
                case measure => simp [intOf]; omega
        · obtain rfl : n2 = k := by omega
          have HX := HBW.out
          go_wp2
          go_ret
          exact ⟨rfl, HX⟩
end Sh
end Go.Proofs.YtnnnjonodnkccaaGreatDoor
