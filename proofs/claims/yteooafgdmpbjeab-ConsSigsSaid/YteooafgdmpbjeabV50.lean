/- Good: a schema and whether it may be. Written by gen_good.py. -/
import Derived.Test.YteooafgdmpbjeabV49
import Derived.Test.YteooafgdmpbjeabV40
import Derived.Test.YteooafgdmpbjeabV46
import Derived.Laws.ResultCell
import Derived.Laws.Rows
namespace Go.Proofs.Yteooafgdmpbjeab
open Go.RowKit
namespace Sp
open Sc
set_option maxRecDepth 100000
theorem SchO.since {w : World} {z : Nat} {s : Sz} {c : C4} {a1 a2 : Option Addr} {n1 n2 : Nat} {us : List (List UInt8 × C4)} {gs : List (List UInt8 × G6)} (h : SchO w z s c (.slice a1 s.types.length n1) us (.slice a2 s.sigs.length n2) gs) : SzV w (fun g => z ≤ g ∧ g < w.heap.size) s c a1 us a2 gs := by
  have hS : ∀ g, Free w (List.range z) [.slice a1 s.types.length n1, .slice a2 s.sigs.length n2] g → z ≤ g ∧ g < w.heap.size := fun g hg => ⟨by have := hg.2.1; simp at this; omega, hg.1⟩
  obtain ⟨b1, d1, e1, r1⟩ := RowV.own (l := us.map encZ) (S := fun g => z ≤ g ∧ g < w.heap.size) (by have h0 := h.town; rw [List.flatMap_def] at h0; exact h0) (encZ_len us) (by simp) (fun g e => h.town.lt g e)
  obtain ⟨b2, d2, e2, r2⟩ := RowV.own (l := gs.map encG) (S := fun g => z ≤ g ∧ g < w.heap.size) (by have h0 := h.sown; rw [List.flatMap_def] at h0; exact h0) (encG_len gs) (by simp) (fun g e => h.sown.lt g e)
  simp only [Value.slice.injEq] at e1 e2
  obtain ⟨rfl, -, -⟩ := e1
  obtain ⟨rfl, -, -⟩ := e2
  exact ⟨h.main.keep hS (fun _ _ => rfl), h.tlen, r1, fun i h1 h2 => ⟨(h.tval i h1 h2).1, (h.tval i h1 h2).2.keep hS (fun _ _ => rfl)⟩, h.slen, r2, fun i h1 h2 => (h.sval i h1 h2).step fun g hg => ⟨hS g hg, rfl⟩⟩
theorem SzV.keepS {w w' : World} {S S' : Nat → Prop} {s : Sz} {c : C4} {a1 a2 : Option Addr} {us : List (List UInt8 × C4)} {gs : List (List UInt8 × G6)} (h : SzV w S s c a1 us a2 gs) (hk : ∀ g, S g → w'.heap[g]? = w.heap[g]?) (hS : ∀ g, S g → S' g) : SzV w' S' s c a1 us a2 gs :=
  ⟨h.main.keep hS hk, h.nt, h.rt.keep hS hk, fun i h1 h2 => ⟨(h.vt i h1 h2).1, (h.vt i h1 h2).2.keep hS hk⟩, h.ng, h.rg.keep hS hk, fun i h1 h2 => (h.vg i h1 h2).step fun g hg => ⟨hS g hg, hk g hg⟩⟩
/-- Good's variable: what is answered. -/
structure GdM (W2 : World) (gb : Nat) (sc : Array Value) (b4 : Bool) (v : World) : Prop where
  keeps : Keeps (fun g => g = gb) W2 v
  low : b4 = false → Below W2.heap.size W2 v
  at_ : b4 = true → v.heap[gb]? = some (.cells sc 35 (0, 0))
theorem _root_.Go.RowKit.Below.gd {W2 v w' : World} {gb : Nat} {sc : Array Value} (h : Below W2.heap.size W2 v) (hb : Below v.heap.size v w') : GdM W2 gb sc false w' :=
  ⟨Keeps.of_below (h.trans (hb.mono h.size)), fun _ => h.trans (hb.mono h.size), (fun e => by cases e)⟩
theorem _root_.Go.RowKit.Below.gdPut {W2 v : World} {gb : Nat} {v0 v1 v2 v3 v4 v5 : Value} (h : Below W2.heap.size W2 v) (hg : v.heap[gb]? = some (.cells #[.int .i64 0, .string ⟨#[]⟩, .slice none 0 0, .slice none 0 0, .slice none 0 0, .slice none 0 0] 35 (0, 0))) :
    GdM W2 gb #[v0, v1, v2, v3, v4, v5] true ((((((v.setCell ⟨gb, 0, none⟩ v0).setCell ⟨gb, 1, none⟩ v1).setCell ⟨gb, 2, none⟩ v2).setCell ⟨gb, 3, none⟩ v3).setCell ⟨gb, 4, none⟩ v4).setCell ⟨gb, 5, none⟩ v5) :=
  ⟨(((((((Keeps.of_below h : Keeps (fun g => g = gb) W2 v).setCell 0 _ rfl).setCell 1 _ rfl).setCell 2 _ rfl).setCell 3 _ rfl).setCell 4 _ rfl).setCell 5 _ rfl), (fun e => by cases e), fun _ => by unfold World.setCell; simp [Array.getElem?_modify, hg]⟩
set_option maxHeartbeats 8000000 in
theorem Good_any (main : Rw) (types sigs : List Rw) (cm : R4) (at1 as1 : Option Addr) (ut ug : List R4) (c1 c2 : Nat) (w : World) (hM : RwV w main cm) (hT : RwsV w types at1 ut) (hG : RwsV w sigs as1 ug) (hl : types.length ≤ maxLen) (hl2 : sigs.length ≤ maxLen) (hft : (schR main types sigs).types.length ≤ 1000000) (hfs : (schR main types sigs).sigs.length ≤ 1000000) (hfit : SzFit (schR main types sigs)) :
    Calls Try.prog 19 #[.agg #[.int .i64 cm.k, .int .i64 cm.n, .slice cm.an cm.ln cm.cn, .slice cm.ak cm.lk cm.ck], .slice at1 types.length c1, .slice as1 sigs.length c2] w fun e w' => ∃ (c : C4) (a1 : Option Addr) (n1 : Nat) (us : List (List UInt8 × C4)) (a2 : Option Addr) (n2 : Nat) (gs : List (List UInt8 × G6)),
      e = .returned (.tuple #[.agg #[.int .i64 c.k, .string c.n, .slice c.an c.ln c.cn, .slice c.ak c.lk c.ck, .slice a1 (schR main types sigs).types.length n1, .slice a2 (schR main types sigs).sigs.length n2], .bool (decide (refC (schR main types sigs) = 0))]) ∧ SzV w' (fun g => w.heap.size ≤ g ∧ g < w'.heap.size) (schR main types sigs) c a1 us a2 gs ∧ Below w.heap.size w w' := by
  obtain ⟨W0, hW0⟩ : ∃ W0, W0 = (w.alloc (.cells #[.int .i64 cm.k, .int .i64 cm.n, .slice cm.an cm.ln cm.cn, .slice cm.ak cm.lk cm.ck] 45)).alloc (.cells #[.int .i64 0, .string ⟨#[]⟩, .slice none 0 0, .slice none 0 0, .slice none 0 0, .slice none 0 0] 35) := ⟨_, rfl⟩
  have hbw0 : Below w.heap.size w W0 := by rw [hW0]; exact ((Below.refl _ _).alloc (Nat.le_refl _) _).alloc (by simp) _
  have hz0 : W0.heap.size = w.heap.size + 2 := by rw [hW0]; simp
  have hs0 : W0.heap[w.heap.size]? = some (.cells #[.int .i64 cm.k, .int .i64 cm.n, .slice cm.an cm.ln cm.cn, .slice cm.ak cm.lk cm.ck] 45 (0, 0)) := by rw [hW0, blk_if, if_neg (by simp), blk_if, if_pos rfl]
  have hg0 : W0.heap[w.heap.size + 1]? = some (.cells #[.int .i64 0, .string ⟨#[]⟩, .slice none 0 0, .slice none 0 0, .slice none 0 0, .slice none 0 0] 35 (0, 0)) := by rw [hW0, blk_if, if_pos (by simp)]
  have CS := Schema_any main types sigs cm at1 as1 ut ug c1 c2 W0 (hM.later hbw0) (hT.up hbw0) (hG.up hbw0) hl hl2
  generalize schR main types sigs = s at *
  obtain ⟨b0, hb0⟩ : ∃ b0 : Bool, decide (refC s = 0) = b0 := ⟨_, rfl⟩
  rw [hb0]
  have hb1 : ((refC s : Int) == 0) = b0 := by rw [← hb0, Bool.eq_iff_iff]; simp
  have HCS := Lib.hid CS; have HW0 := Lib.hid hW0; have HB0 := Lib.hid hbw0; have HG0 := Lib.hid hg0; have HFIT := Lib.hid hfit
  obtain ⟨⟨p0, p1, p2, p3⟩, _⟩ := four_blk hs0
  clear CS hW0 hbw0 hg0 hs0 hM hT hG hl hl2 hfit
  go_enter Try.func19, Try.ntmps19
  go_upto_region 1 with fail
  rw [← HW0.out]
  go_upto_region 2 with (go_at_call 36; (with_reducible refine HCS.out.mono ?_); rintro e w1 ⟨c, a1, n1, us, a2, n2, gs, rfl, hso, x1⟩; have hz1 := x1.size; have HSO := Lib.hid hso; have HX1 := Lib.hid x1; clear hso x1)
  obtain ⟨sb, hsb⟩ : ∃ sb, sb = w1.heap.size := ⟨_, rfl⟩
  obtain ⟨W2, hW2⟩ : ∃ W2, W2 = w1.alloc (.cells #[.int .i64 c.k, .string c.n, .slice c.an c.ln c.cn, .slice c.ak c.lk c.ck, .slice a1 s.types.length n1, .slice a2 s.sigs.length n2] 35) := ⟨_, rfl⟩
  have hz2 : W2.heap.size = w1.heap.size + 1 := by rw [hW2]; simp
  have hb2 : Below w1.heap.size w1 W2 := by rw [hW2]; exact (Below.refl _ _).alloc (Nat.le_refl _) _
  have hs2 : W2.heap[sb]? = some (.cells #[.int .i64 c.k, .string c.n, .slice c.an c.ln c.cn, .slice c.ak c.lk c.ck, .slice a1 s.types.length n1, .slice a2 s.sigs.length n2] 35 (0, 0)) := by rw [hW2, hsb]; exact heap_alloc_new w1 _
  have hg2 := (hb2.block (w.heap.size + 1) (by omega)).trans ((HX1.out.block (w.heap.size + 1) (by omega)).trans HG0.out)
  have hv2 : SzV W2 (fun g => W0.heap.size ≤ g ∧ g < w1.heap.size) s c a1 us a2 gs := HSO.out.since.keep fun g hg => hb2.block g hg.2
  have hck : ∀ v, Below W2.heap.size W2 v → Calls Try.prog 37 #[.agg #[.int .i64 c.k, .string c.n, .slice c.an c.ln c.cn, .slice c.ak c.lk c.ck, .slice a1 s.types.length n1, .slice a2 s.sigs.length n2]] v fun e w' => e = .returned (.int .i64 (refC s : Nat)) ∧ Below v.heap.size v w' := fun v hv =>
    Check_ref (fun g => W0.heap.size ≤ g ∧ g < w1.heap.size) s c a1 a2 us gs n1 n2 v (fun g hg => by have := hv.size; have := hg.2; omega) (hv2.keep fun g hg => hv.block g (by have := hg.2; omega)) hft hfs HFIT.out
  rw [← hW2, ← hsb]
  have HS2 := Lib.hid hs2; have HG2 := Lib.hid hg2; have HV2 := Lib.hid hv2; have HCK := Lib.hid hck
  have HBW := Lib.hid (HB0.out.trans ((HX1.out.mono (by omega)).trans (hb2.mono (by omega))))
  have hsb1 : sb < W2.heap.size := by omega
  have hsb2 : w.heap.size + 1 < sb := by omega
  have hzw : w.heap.size + 1 < W2.heap.size := by omega
  clear hs2 hg2 hv2 hck hb2 hW2 p0 p1 p2 p3
  refine wp_region_by (QJ (fun (x : Unit) i => match i with | 0 => .agg #[.int .i64 c.k, .string c.n, .slice c.an c.ln c.cn, .slice c.ak c.lk c.ck, .slice a1 s.types.length n1, .slice a2 s.sigs.length n2] | 1 => .agg #[.int .i64 c.k, .string c.n, .slice c.an c.ln c.cn, .slice c.ak c.lk c.ck, .slice a1 s.types.length n1, .slice a2 s.sigs.length n2] | 2 => .int .i64 (refC s : Nat) | 3 => .bool b0 | 4 => undef | 5 => .bool b0 | _ => undef) (fun _ listed v => GdM W2 (w.heap.size + 1) #[.int .i64 c.k, .string c.n, .slice c.an c.ln c.cn, .slice c.ak c.lk c.ck, .slice a1 s.types.length n1, .slice a2 s.sigs.length n2] (listed.getD 4 false) v)) (by kernel_rfl) ?_ ?_ ?_
  · exact ⟨by simp, Closed.start _, (), Fr.start _ _ _, ⟨Keeps.of_below (Below.drew (Below.refl _ _)), (fun _ => Below.drew (Below.refl _ _)), (fun h => by simp at h)⟩⟩
  · intro listed b v q hJ hi
    obtain ⟨hsz, hC, x, hF, hM⟩ := hJ
    have hMb : GdM W2 (w.heap.size + 1) #[.int .i64 c.k, .string c.n, .slice c.an c.ln c.cn, .slice c.ak c.lk c.ck, .slice a1 s.types.length n1, .slice a2 s.sigs.length n2] (listed.getD 4 false) v := hM
    obtain ⟨hl1, hiN⟩ := not_up hsz hi
    obtain ⟨_, o, ho, hdeps⟩ := mem_ready.1 hi
    have hiN : q < 6 := hiN
    obtain rfl | rfl | rfl | rfl | rfl | rfl : q = 0 ∨ q = 1 ∨ q = 2 ∨ q = 3 ∨ q = 4 ∨ q = 5 := by omega
    · cases ho
      obtain ⟨⟨y0, y1, y2, y3, y4, y5⟩, _⟩ := six_blkF ((hMb.keeps.block sb (by omega) (by omega)).trans HS2.out)
      have e8 := hF.old_is 8 (by rfl) rfl
      refine QJ.quiet (x := x) hsz hC hi hF (Slots.of (by rfl)) rfl (wanted_none rfl) (show GdM W2 (w.heap.size + 1) #[.int .i64 c.k, .string c.n, .slice c.an c.ln c.cn, .slice c.ak c.lk c.ck, .slice a1 s.types.length n1, .slice a2 s.sigs.length n2] ((listed.setIfInBounds 0 true).getD 4 false) v by rw [getD_setN (show 0 ≠ 4 by decide)]; exact hMb) ?_
      show _ = Result.ok (Next.value (.agg #[.int .i64 c.k, .string c.n, .slice c.an c.ln c.cn, .slice c.ak c.lk c.ck, .slice a1 s.types.length n1, .slice a2 s.sigs.length n2])) v
      simp [execOp, go_sem, e8, y0, y1, y2, y3, y4, y5]
    · cases ho
      obtain ⟨⟨y0, y1, y2, y3, y4, y5⟩, _⟩ := six_blkF ((hMb.keeps.block sb (by omega) (by omega)).trans HS2.out)
      have e8 := hF.old_is 8 (by rfl) rfl
      refine QJ.quiet (x := x) hsz hC hi hF (Slots.of (by rfl)) rfl (wanted_none rfl) (show GdM W2 (w.heap.size + 1) #[.int .i64 c.k, .string c.n, .slice c.an c.ln c.cn, .slice c.ak c.lk c.ck, .slice a1 s.types.length n1, .slice a2 s.sigs.length n2] ((listed.setIfInBounds 1 true).getD 4 false) v by rw [getD_setN (show 1 ≠ 4 by decide)]; exact hMb) ?_
      show _ = Result.ok (Next.value (.agg #[.int .i64 c.k, .string c.n, .slice c.an c.ln c.cn, .slice c.ak c.lk c.ck, .slice a1 s.types.length n1, .slice a2 s.sigs.length n2])) v
      simp [execOp, go_sem, e8, y0, y1, y2, y3, y4, y5]
    · cases ho
      have l4 : listed.getD 4 false = false := by
        cases hh : listed.getD 4 false
        · rfl
        · have y0 := hC 4 _ rfl hh ⟨2, .chain⟩ (by simp) rfl; rw [hl1] at y0; cases y0
      have e14 : b.tmps[14]? = some (.agg #[.int .i64 c.k, .string c.n, .slice c.an c.ln c.cn, .slice c.ak c.lk c.ck, .slice a1 s.types.length n1, .slice a2 s.sigs.length n2]) := hF.up 1 14 rfl (hdeps ⟨1, .data⟩ (by simp) rfl)
      refine QJ.call (x := x) (f := 37) (args := #[.agg #[.int .i64 c.k, .string c.n, .slice c.an c.ln c.cn, .slice c.ak c.lk c.ck, .slice a1 s.types.length n1, .slice a2 s.sigs.length n2]]) hsz hC hi hF (Slots.of (by rfl)) rfl (wanted_none rfl) (by simp [execOp, go_sem, e14]) (HCK.out v (hMb.low l4)) ?_
      rintro e w' ⟨rfl, hb⟩
      exact ⟨(), rfl, fun _ _ => rfl, (show GdM W2 (w.heap.size + 1) #[.int .i64 c.k, .string c.n, .slice c.an c.ln c.cn, .slice c.ak c.lk c.ck, .slice a1 s.types.length n1, .slice a2 s.sigs.length n2] ((listed.setIfInBounds 2 true).getD 4 false) w' by rw [getD_setN (show 2 ≠ 4 by decide), l4]; exact (hMb.low l4).gd hb)⟩
    · cases ho
      have e15 : b.tmps[15]? = some (.int .i64 (refC s : Nat)) := hF.up 2 15 rfl (hdeps ⟨2, .data⟩ (by simp) rfl)
      refine QJ.quiet (x := x) hsz hC hi hF (Slots.of (by rfl)) rfl (wanted_none rfl) (show GdM W2 (w.heap.size + 1) #[.int .i64 c.k, .string c.n, .slice c.an c.ln c.cn, .slice c.ak c.lk c.ck, .slice a1 s.types.length n1, .slice a2 s.sigs.length n2] ((listed.setIfInBounds 3 true).getD 4 false) v by rw [getD_setN (show 3 ≠ 4 by decide)]; exact hMb) ?_
      show _ = Result.ok (Next.value (.bool b0)) v
      simp [execOp, go_sem, e15, hb1]
    · cases ho
      have e6 := hF.old_is 6 (by rfl) rfl
      have e13 : b.tmps[13]? = some (.agg #[.int .i64 c.k, .string c.n, .slice c.an c.ln c.cn, .slice c.ak c.lk c.ck, .slice a1 s.types.length n1, .slice a2 s.sigs.length n2]) := hF.up 0 13 rfl (hdeps ⟨0, .data⟩ (by simp) rfl)
      have hlo := hMb.low hl1
      have hg := (hlo.block (w.heap.size + 1) (by omega)).trans HG2.out
      obtain ⟨⟨z0, z1, z2, z3, z4, z5⟩, ⟨g0, g1, g2, g3, g4, g5⟩⟩ := six_blkF hg
      refine QJ.store (x := x) hsz hC hi hF (Slots.of (by rfl)) rfl rfl (wanted_none rfl) (show GdM W2 (w.heap.size + 1) #[.int .i64 c.k, .string c.n, .slice c.an c.ln c.cn, .slice c.ak c.lk c.ck, .slice a1 s.types.length n1, .slice a2 s.sigs.length n2] ((listed.setIfInBounds 4 true).getD 4 false) ((((((v.setCell ⟨w.heap.size + 1, 0, none⟩ (.int .i64 c.k)).setCell ⟨w.heap.size + 1, 1, none⟩ (.string c.n)).setCell ⟨w.heap.size + 1, 2, none⟩ (.slice c.an c.ln c.cn)).setCell ⟨w.heap.size + 1, 3, none⟩ (.slice c.ak c.lk c.ck)).setCell ⟨w.heap.size + 1, 4, none⟩ (.slice a1 s.types.length n1)).setCell ⟨w.heap.size + 1, 5, none⟩ (.slice a2 s.sigs.length n2)) by rw [getD_setS (by rw [hsz]; decide)]; exact hlo.gdPut hg) ?_
      simp [execOp, go_sem, e6, e13, z0, z1, z2, z3, z4, z5, g0, g1, g2, g3, g4, g5]
    · cases ho
      have e16 : b.tmps[16]? = some (.bool b0) := hF.up 3 16 rfl (hdeps ⟨3, .data⟩ (by simp) rfl)
      refine QJ.quiet (x := x) hsz hC hi hF (Slots.of (by rfl)) rfl (wanted_none rfl) (show GdM W2 (w.heap.size + 1) #[.int .i64 c.k, .string c.n, .slice c.an c.ln c.cn, .slice c.ak c.lk c.ck, .slice a1 s.types.length n1, .slice a2 s.sigs.length n2] ((listed.setIfInBounds 5 true).getD 4 false) v by rw [getD_setN (show 5 ≠ 4 by decide)]; exact hMb) ?_
      show _ = Result.ok (Next.value (.bool b0)) v
      simp [execOp, go_sem, e16]
  · intro listed b W3 hJ hr
    obtain ⟨hsz, hC, x, hF, hM⟩ := hJ
    have hall := all_upB2 (by rfl) hsz hr
    have hMb : GdM W2 (w.heap.size + 1) #[.int .i64 c.k, .string c.n, .slice c.an c.ln c.cn, .slice c.ak c.lk c.ck, .slice a1 s.types.length n1, .slice a2 s.sigs.length n2] true W3 := by
      have h : GdM W2 (w.heap.size + 1) #[.int .i64 c.k, .string c.n, .slice c.an c.ln c.cn, .slice c.ak c.lk c.ck, .slice a1 s.types.length n1, .slice a2 s.sigs.length n2] (listed.getD 4 false) W3 := hM
      rw [hall 4 (by decide)] at h
      exact h
    have hb : b = putAll _ _ _ 6 := hF.done (Slots.of (by rfl)) hall
    subst hb
    simp only [putAll]
    simp [dstOf, Act.put]
    have HMB := Lib.hid hMb
    clear hM hF hC hall hr hsz hMb
    go_wp2
    have hl := run_loadVar_row (P := Try.prog) W3 (w.heap.size + 1) 35 35 _ (0, 0) _ (HMB.out.at_ rfl) Try.underlying35 rfl (by kernel_rfl)
    refine bodyPost_ret (v := .tuple #[.agg #[.int .i64 c.k, .string c.n, .slice c.an c.ln c.cn, .slice c.ak c.lk c.ck, .slice a1 s.types.length n1, .slice a2 s.sigs.length n2], .bool b0]) (by rw [results_cell_tmp rfl]; simp [asAddr, hl]) rfl ?_
    have hz3 := HMB.out.keeps.size
    exact ⟨c, a1, n1, us, a2, n2, gs, rfl, (HV2.out.keepS (fun g hg => HMB.out.keeps.block g (by have := hg.2; omega) (by have := hg.1; omega)) (fun g hg => ⟨by have := hg.1; omega, by have := hg.2; omega⟩)), HBW.out.trans (HMB.out.keeps.below (by omega) (fun g e => by omega))⟩
end Sp
end Go.Proofs.Yteooafgdmpbjeab
