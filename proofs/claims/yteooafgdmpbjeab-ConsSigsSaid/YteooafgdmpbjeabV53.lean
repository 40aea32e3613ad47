/- sprueref3's Same, of two types that are the same. -/
import Derived.Test.YteooafgdmpbjeabV51
import Derived.Test.YteooafgdmpbjeabV41
import Derived.Test.YteooafgdmpbjeabV40
import Derived.Test.YteooafgdmpbjeabV42
namespace Go.Proofs.Yteooafgdmpbjeab
open Go.RowKit
namespace Sp
open Sc
set_option maxRecDepth 100000
theorem cells_tok {w : World} {S : Nat → Prop} {an : Option Addr} {ns : List (List UInt8)} (h : RowV w S an 1 (ns.map fun n => [str n])) (k : Nat) (hk : k < ns.length) :
    ∃ g o, an = some ⟨g, o, none⟩ ∧ S g ∧ ∀ W : World, W.heap[g]? = w.heap[g]? → W.cell? ⟨g, o + k, none⟩ = some (.string ⟨ns[k].toArray⟩) := by
  rcases h with h | ⟨g, o, ha, hg, hc⟩
  · rw [List.map_eq_nil_iff] at h; rw [h] at hk; cases hk
  · refine ⟨g, o, ha, hg, fun W hW => ?_⟩
    have := hc k (by simpa using hk) 0 (str ns[k]) (by simp)
    rw [show o + k * 1 + 0 = o + k by omega] at this
    exact (World.cell?_of_block (a := ⟨g, o + k, none⟩) hW).trans this
theorem cells_kid {w : World} {S : Nat → Prop} {ak : Option Addr} {us : List C4} (h : RowV w S ak 4 (us.map C4.cells)) (k : Nat) (hk : k < us.length) :
    ∃ g o, ak = some ⟨g, o, none⟩ ∧ S g ∧ ∀ W : World, W.heap[g]? = w.heap[g]? → W.cell? ⟨g, o + k * 4, none⟩ = some (.int .i64 us[k].k) ∧ W.cell? ⟨g, o + k * 4 + 1, none⟩ = some (.string us[k].n) ∧
      W.cell? ⟨g, o + k * 4 + 2, none⟩ = some (.slice us[k].an us[k].ln us[k].cn) ∧ W.cell? ⟨g, o + k * 4 + 3, none⟩ = some (.slice us[k].ak us[k].lk us[k].ck) := by
  rcases h with h | ⟨g, o, ha, hg, hc⟩
  · rw [List.map_eq_nil_iff] at h; rw [h] at hk; cases hk
  · refine ⟨g, o, ha, hg, fun W hW => ?_⟩
    have a := fun j v hv => (World.cell?_of_block (a := ⟨g, o + k * 4 + j, none⟩) hW).trans (hc k (by simpa using hk) j v (by simpa using hv))
    exact ⟨a 0 _ rfl, a 1 _ rfl, a 2 _ rfl, a 3 _ rfl⟩
def SameZ (t : Tz) : Prop := ∀ (w : World) (S S' : Nat → Prop) (c d : C4), TzV w S t c → TzV w S' t d → (∀ g, S g → g < w.heap.size) → (∀ g, S' g → g < w.heap.size) →
  Calls Try.prog 21 #[.agg #[.int .i64 c.k, .string c.n, .slice c.an c.ln c.cn, .slice c.ak c.lk c.ck], .agg #[.int .i64 d.k, .string d.n, .slice d.an d.ln d.cn, .slice d.ak d.lk d.ck]] w fun e w' => e = .returned (.bool true) ∧ Below w.heap.size w w'
def LRz (w W0 : World) (n : Nat) (i : Value) (wr : World) (k : Nat) : Prop := i = .int .i64 k ∧ k ≤ n ∧ Below (w.heap.size + 2) W0 wr
set_option maxHeartbeats 4000000 in
theorem sameZ_step (k0 : Int) (n : List UInt8) (ns : List (List UInt8)) (ks : List Tz) (hns : ns.length ≤ 1000000) (hks : ks.length ≤ 1000000) (hkid : ∀ i (hi : i < ks.length), SameZ ks[i]) : SameZ (.mk k0 n ns ks) := by
  intro w S S' c d hc hd hS hS'
  cases hc with
  | mk _ _ _ _ an cn ak ck us hl hn hk hu =>
  cases hd with
  | mk _ _ _ _ an' cn' ak' ck' us' hl' hn' hk' hu' =>
  obtain ⟨W0, hW0⟩ : ∃ W0, W0 = (w.alloc (.cells #[.int .i64 k0, .string ⟨n.toArray⟩, .slice an ns.length cn, .slice ak ks.length ck] 31)).alloc (.cells #[.int .i64 k0, .string ⟨n.toArray⟩, .slice an' ns.length cn', .slice ak' ks.length ck'] 31) := ⟨_, rfl⟩
  have hb0 : Below w.heap.size w W0 := by rw [hW0]; exact ((Below.refl _ _).alloc (Nat.le_refl _) _).alloc (by simp) _
  have r0 : W0.heap[w.heap.size]? = some (.cells #[.int .i64 k0, .string ⟨n.toArray⟩, .slice an ns.length cn, .slice ak ks.length ck] 31 (0, 0)) := by rw [hW0, blk_if, if_neg (by simp), blk_if, if_pos rfl]
  have r1 : W0.heap[w.heap.size + 1]? = some (.cells #[.int .i64 k0, .string ⟨n.toArray⟩, .slice an' ns.length cn', .slice ak' ks.length ck'] 31 (0, 0)) := by rw [hW0, blk_if, if_pos (by simp)]
  have s0 : W0.heap.size = w.heap.size + 2 := by rw [hW0]; simp
  have R0 := Lib.hid r0; have R1 := Lib.hid r1; have HB0 := Lib.hid hb0; have HN := Lib.hid hn; have HN' := Lib.hid hn'; have HK := Lib.hid hk; have HK' := Lib.hid hk'
  have HU := Lib.hid hu; have HU' := Lib.hid hu'; have HSS := Lib.hid hS; have HSS' := Lib.hid hS'; have HKID := Lib.hid hkid; have S0 := Lib.hid s0; have HW0 := Lib.hid hW0
  clear r0 r1 hb0 hn hn' hk hk' hu hu' hS hS' hkid s0 hW0
  go_enter Try.func21, Try.ntmps21
  go_upto_region 1 with fail
  rw [← HW0.out]
  clear HW0
  obtain ⟨⟨p0, p1, p2, p3⟩, _⟩ := four_blk R0.out
  obtain ⟨⟨q0, q1, q2, q3⟩, _⟩ := four_blk R1.out
  have hs0 := S0.out
  have hz1 : w.heap.size < W0.heap.size := by omega
  have hz2 : w.heap.size + 1 < W0.heap.size := by omega
  clear hs0
  go_wp2_with fail
  clear p0 p1 p2 p3 q0 q1 q2 q3
  go_loopw [5] (fun i wr => ∃ k, LRz w W0 ns.length i wr k) (fun i _ => ns.length - (intOf i).toNat)
  case atStart => exact ⟨0, rfl, Nat.zero_le _, Below.refl _ _⟩
  case round =>
    obtain ⟨k, rfl, hkl, hB⟩ := hrel
    have hBw := HB0.out.trans (hB.mono (by omega))
    have hws : w.heap.size + 2 ≤ wr.heap.size := by have := hB.size; rw [S0.out] at this; exact this
    have b0 := (hB.block w.heap.size (by omega)).trans R0.out
    have b1 := (hB.block (w.heap.size + 1) (by omega)).trans R1.out
    obtain ⟨⟨p0, p1, p2, p3⟩, _⟩ := four_blk b0
    obtain ⟨⟨q0, q1, q2, q3⟩, _⟩ := four_blk b1
    have HB := Lib.hid hB; have HBW := Lib.hid hBw
    clear hB hBw b0 b1
    by_cases hlt : k < ns.length
    · obtain ⟨g, o, rfl, hgS, hg⟩ := cells_tok HN.out k hlt
      obtain ⟨g', o', rfl, hgS', hg'⟩ := cells_tok HN'.out k hlt
      have m1 : wr.drew.cell? ⟨g, o + k, none⟩ = some (.string ⟨ns[k].toArray⟩) := hg _ (HBW.out.block g (HSS.out g hgS))
      have m2 : wr.drew.cell? ⟨g', o' + k, none⟩ = some (.string ⟨ns[k].toArray⟩) := hg' _ (HBW.out.block g' (HSS'.out g' hgS'))
      have p2d : wr.drew.cell? ⟨w.heap.size, 2, none⟩ = some (.slice (some ⟨g, o, none⟩) ns.length cn) := p2
      have q2d : wr.drew.cell? ⟨w.heap.size + 1, 2, none⟩ = some (.slice (some ⟨g', o', none⟩) ns.length cn') := q2
      have hkz : (k : Int) < (ns.length : Int) := by omega
      have hk0 : (0 : Int) ≤ (k : Int) := by omega
      clear hg hg' hgS hgS'
      generalize ns[k] = x at *
      go_wp2_with fail
      go_region_held3 (fun w' => w'.cell? ⟨w.heap.size, 2, none⟩ = some (.slice (some ⟨g, o, none⟩) ns.length cn) ∧ w'.cell? ⟨w.heap.size + 1, 2, none⟩ = some (.slice (some ⟨g', o', none⟩) ns.length cn') ∧ w'.cell? ⟨g, o + k, none⟩ = some (.string ⟨x.toArray⟩) ∧ w'.cell? ⟨g', o' + k, none⟩ = some (.string ⟨x.toArray⟩)) (go_keep) (fail)
      go_wp2
      go_roundw
      case rel => exact ⟨k + 1, by go_num, by omega, HB.out.drew⟩
      case measure => simp [intOf]; omega
    · obtain rfl : k = ns.length := by omega
      have hB := HB.out
      clear p0 p1 p2 p3 q0 q1 q2 q3 HB HBW hlt hkl
      obtain ⟨wx, hwx⟩ : ∃ wx, wx = wr := ⟨wr, rfl⟩
      subst hwx
      obtain ⟨⟨p0, p1, p2, p3⟩, _⟩ := four_blk ((hB.block w.heap.size (by omega)).trans R0.out)
      obtain ⟨⟨q0, q1, q2, q3⟩, _⟩ := four_blk ((hB.block (w.heap.size + 1) (by omega)).trans R1.out)
      have HB1 := Lib.hid hB
      clear hB
      go_wp2
      clear p0 p1 p2 p3 q0 q1 q2 q3
      go_loopw [6] (fun i wr => ∃ k, LRz w W0 ks.length i wr k) (fun i _ => ks.length - (intOf i).toNat)
      case atStart => exact ⟨0, rfl, Nat.zero_le _, HB1.out⟩
      case round =>
        obtain ⟨k, rfl, hkl, hB⟩ := hrel
        have hBw := HB0.out.trans (hB.mono (by omega))
        have hws2 := hB.size
        rw [S0.out] at hws2
        have b0 := (hB.block w.heap.size (by omega)).trans R0.out
        have b1 := (hB.block (w.heap.size + 1) (by omega)).trans R1.out
        obtain ⟨⟨p0, p1, p2, p3⟩, _⟩ := four_blk b0
        obtain ⟨⟨q0, q1, q2, q3⟩, _⟩ := four_blk b1
        have HB := Lib.hid hB; have HBW := Lib.hid hBw
        clear hB hBw b0 b1
        by_cases hlt : k < ks.length
        · have hlu : k < us.length := by omega
          have hlu' : k < us'.length := by omega
          obtain ⟨g, o, rfl, hgS, hg⟩ := cells_kid HK.out k hlu
          obtain ⟨g', o', rfl, hgS', hg'⟩ := cells_kid HK'.out k hlu'
          have hbs : ∀ g, g < w.heap.size → wr.drew.heap[g]? = w.heap[g]? := fun g hg => HBW.out.drew.block g hg
          obtain ⟨m0, m1, m2, m3⟩ := hg _ (hbs g (HSS.out g hgS))
          obtain ⟨l0, l1, l2, l3⟩ := hg' _ (hbs g' (HSS'.out g' hgS'))
          have p3d : wr.drew.cell? ⟨w.heap.size, 3, none⟩ = some (.slice (some ⟨g, o, none⟩) ks.length ck) := p3
          have q3d : wr.drew.cell? ⟨w.heap.size + 1, 3, none⟩ = some (.slice (some ⟨g', o', none⟩) ks.length ck') := q3
          have C := HKID.out k hlt wr.drew S S' us[k] us'[k] ((HU.out k hlt hlu).keep (fun _ h => h) (fun g hg => hbs g (HSS.out g hg))) ((HU'.out k hlt hlu').keep (fun _ h => h) (fun g hg => hbs g (HSS'.out g hg))) (fun g hg => Nat.lt_of_lt_of_le (HSS.out g hg) HBW.out.size) (fun g hg => Nat.lt_of_lt_of_le (HSS'.out g hg) HBW.out.size)
          have HC := Lib.hid C
          have hkz : (k : Int) < (ks.length : Int) := by omega
          have hk0 : (0 : Int) ≤ (k : Int) := by omega
          have HG : Hid (∀ W : World, Below w.heap.size w W → _) := fun W hW => hg W (hW.block g (HSS.out g hgS))
          have HG' : Hid (∀ W : World, Below w.heap.size w W → _) := fun W hW => hg' W (hW.block g' (HSS'.out g' hgS'))
          clear hg hg' C hbs hgS hgS'
          generalize us[k] = x at *
          generalize us'[k] = y at *
          obtain ⟨x1, x2, x3, x4, x5, x6, x7, x8⟩ := x
          obtain ⟨y1, y2, y3, y4, y5, y6, y7, y8⟩ := y
          go_wp2_with fail
          go_region_held3 (fun w' => w'.cell? ⟨w.heap.size, 3, none⟩ = some (.slice (some ⟨g, o, none⟩) ks.length ck) ∧ w'.cell? ⟨w.heap.size + 1, 3, none⟩ = some (.slice (some ⟨g', o', none⟩) ks.length ck') ∧ w'.cell? ⟨g, o + k * 4, none⟩ = some (.int .i64 x1) ∧ w'.cell? ⟨g, o + k * 4 + 1, none⟩ = some (.string x2) ∧ w'.cell? ⟨g, o + k * 4 + 2, none⟩ = some (.slice x3 x4 x5) ∧ w'.cell? ⟨g, o + k * 4 + 3, none⟩ = some (.slice x6 x7 x8) ∧ w'.cell? ⟨g', o' + k * 4, none⟩ = some (.int .i64 y1) ∧ w'.cell? ⟨g', o' + k * 4 + 1, none⟩ = some (.string y2) ∧ w'.cell? ⟨g', o' + k * 4 + 2, none⟩ = some (.slice y3 y4 y5) ∧ w'.cell? ⟨g', o' + k * 4 + 3, none⟩ = some (.slice y6 y7 y8)) (go_keep) (first
            | (go_at_call 21; (refine HC.out.mono ?_); rintro e w5 ⟨rfl, b5⟩; have hb5 := HBW.out.drew.trans (b5.mono HBW.out.size); have z3 := (b5.cell (p := ⟨w.heap.size, 3, none⟩) (show w.heap.size < wr.heap.size by omega)).trans p3d; have y3' := (b5.cell (p := ⟨w.heap.size + 1, 3, none⟩) (show w.heap.size + 1 < wr.heap.size by omega)).trans q3d; obtain ⟨m0', m1', m2', m3'⟩ := HG.out _ hb5; obtain ⟨l0', l1', l2', l3'⟩ := HG'.out _ hb5))
          go_wp2
          go_roundw
          case rel => exact ⟨k + 1, by go_num, by omega, HB.out.drew.trans (b5.mono (by show _ ≤ wr.heap.size; omega))⟩
          case measure => simp [intOf]; omega
        · obtain rfl : k = ks.length := by omega
          have HBW2 := HBW.out
          go_wp2
          go_ret
          exact ⟨rfl, HBW2⟩
mutual
def fewZ : Tz → Bool
  | .mk _ _ ns ks => decide (ns.length ≤ 1000000) && decide (ks.length ≤ 1000000) && fewZs ks
def fewZs : List Tz → Bool
  | [] => true
  | t :: ks => fewZ t && fewZs ks
end
theorem fewZs_mem : ∀ (ks : List Tz), fewZs ks = true → ∀ (k : Nat) (h : k < ks.length), fewZ ks[k] = true
  | t :: ks, hg, 0, _ => by simp only [fewZs, Bool.and_eq_true] at hg; exact hg.1
  | t :: ks, hg, k + 1, h => by simp only [fewZs, Bool.and_eq_true] at hg; exact fewZs_mem ks hg.2 k (by simpa using h)
theorem rsameZ_any (n : Nat) : ∀ t, sizeZ t ≤ n → fewZ t = true → SameZ t := by
  induction n with
  | zero => intro t h; have := sizeZ_pos t; omega
  | succ n ih =>
    intro t hs hg
    cases t with
    | mk k nm ns ks =>
      simp only [fewZ, Bool.and_eq_true, decide_eq_true_eq] at hg
      rw [sizeZ] at hs
      exact sameZ_step k nm ns ks hg.1.1 hg.1.2 (fun i hi => ih ks[i] (by have := sizeZ_mem ks i hi; omega) (fewZs_mem ks hg.2 i hi))
end Sp
end Go.Proofs.Yteooafgdmpbjeab
namespace Go.Proofs.Yteooafgdmpbjeab
open Go.RowKit
namespace Sp
open Sc
theorem fnsZ_names {has : List UInt8 → Bool} : ∀ (l : List Sg) (a : List UInt8) (n : Nat), (fnsZ has n a l).1 = 0 → namesE builtinB a (l.map (·.name)) = 0
  | [], _, _, _ => rfl
  | g :: l, a, n, h => by
    rw [fnsZ] at h
    split at h
    · rename_i h1
      have h2 : nameE a g.name (builtinB g.name) = 0 := by
        unfold fnZ at h1
        split at h1
        · rename_i h3; exact absurd h1 h3
        · rename_i h3; simpa using h3
      rw [List.map_cons, namesE, if_pos h2]
      exact fnsZ_names l _ _ h
    · rename_i h1; exact absurd h h1
theorem sigs_once {s : Sz} (h : refC s = 0) : ∀ i j (hi : i < s.sigs.length) (hj : j < s.sigs.length), s.sigs[i].name = s.sigs[j].name → i = j := by
  have hs : schZ s = 0 := by
    unfold refC at h
    split at h
    · cases h
    · split at h
      · rename_i h1; exact absurd h h1
      · split at h
        · rename_i h1; exact absurd h h1
        · rename_i h1; simpa using h1
  have hf : ∃ n, (fnsZ (hasZ s.types) n [] s.sigs).1 = 0 := by
    unfold schZ at hs
    simp only at hs
    split at hs
    · rename_i h1; exact absurd hs h1
    · split at hs
      · rename_i h1; exact absurd hs h1
      · exact ⟨_, hs⟩
  obtain ⟨n, hf⟩ := hf
  have hp := (namesE_rise _ _ (fnsZ_names _ _ _ hf)).2
  rw [List.pairwise_iff_getElem] at hp
  intro i j hi hj e
  rcases Nat.lt_trichotomy i j with hlt | rfl | hlt
  · have := hp i j (by simpa using hi) (by simpa using hj) hlt
    simp only [List.getElem_map] at this
    rw [e, bl_irrefl] at this; cases this
  · rfl
  · have := hp j i (by simpa using hj) (by simpa using hi) hlt
    simp only [List.getElem_map] at this
    rw [e, bl_irrefl] at this; cases this
theorem fewZs_of {ks : List Tz} (h : ∀ t ∈ ks, fewZ t = true) : fewZs ks = true := by
  induction ks with
  | nil => rfl
  | cons t ks ih => rw [fewZs, h t List.mem_cons_self, ih fun x hx => h x (List.mem_cons_of_mem _ hx)]; rfl
theorem typT_few {T : List Kz} (hT : ∀ i (h : i < T.length), ∀ j ∈ T[i].kids, j < i) (hf : ∀ k ∈ T, KFit k) : ∀ (n i : Nat), i < n → i < T.length → fewZ (typT T i) = true
  | 0, _, h, _ => absurd h (Nat.not_lt_zero _)
  | n + 1, i, h, hi => by
    have hk := hf T[i] (List.getElem_mem hi)
    have h8 := hk.toWfK.names8
    have hf8 := hk.toWfK.few
    rw [typT_at hT hi, fewZ, fewZs_of fun t ht => by
      obtain ⟨j, hj, rfl⟩ := List.mem_map.1 ht
      have := hT i hi j hj
      exact typT_few hT hf n j (by omega) (by omega)]
    simp only [Bool.and_true, Bool.and_eq_true, decide_eq_true_eq, List.length_map]
    omega
theorem sameT_any {T : List Kz} (hT : ∀ i (h : i < T.length), ∀ j ∈ T[i].kids, j < i) (hf : ∀ k ∈ T, KFit k) {i : Nat} (hi : i < T.length) : SameZ (typT T i) :=
  rsameZ_any _ _ (Nat.le_refl _) (typT_few hT hf (i + 1) i (Nat.lt_succ_self _) hi)
/-- A function of a schema, of its table, in memory: all that is asked of it. -/
theorem sig_pack {w : World} {S : Nat → Prop} {T : List Kz} {g : GN} {z : Sg} {y : List UInt8 × G6} (hw : SigW T g z) (hv : SgV w S z y) :
    ∃ (nm : List UInt8) (ids : List Nat) (r : Nat) (ap : Option Addr) (cp : Nat) (rc : C4) (ps : List C4), g = (nm, ids, r) ∧ y = (nm, ⟨ap, ids.length, cp, rc⟩) ∧ z.name = nm ∧ z.params.length = ids.length ∧ (∀ j ∈ ids, j < T.length) ∧ r < T.length ∧ TzV w S (typT T r) rc ∧ ps.length = ids.length ∧ RowV w S ap 4 (ps.map C4.cells) ∧
      ∀ k (h : k < ids.length) (h' : k < ps.length), TzV w S (typT T ids[k]) ps[k] := by
  obtain ⟨nm, ids, r⟩ := g
  obtain ⟨nm2, ap, lp, cp, rc⟩ := y
  obtain ⟨w1, w2, w3⟩ := hw
  obtain ⟨v1, v2, ⟨ps, v3, v4, v5⟩, v6⟩ := hv
  dsimp only at w1 w2 w3 v1 v2 v3 v4 v5 v6
  have hl : z.params.length = ids.length := by rw [← w2.2, List.length_map]
  have e1 : nm2 = nm := v1.trans w1.symm
  have e2 : lp = ids.length := v2.trans hl
  subst e1 e2
  refine ⟨_, ids, r, ap, cp, rc, ps, rfl, rfl, w1.symm, hl, w2.1, w3.1, by rw [w3.2]; exact v6, by omega, v4, fun k h h' => ?_⟩
  have e : typT T ids[k] = z.params[k] := by
    have := List.getElem_of_eq w2.2 (i := k) (by simpa using h)
    simpa using this
  rw [e]
  exact v5 k (by omega) h'
end Sp
end Go.Proofs.Yteooafgdmpbjeab
