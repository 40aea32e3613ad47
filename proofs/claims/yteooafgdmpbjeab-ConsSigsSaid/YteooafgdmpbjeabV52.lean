/- Type of a number that is there: its tree, in memory of the call's own. -/
import Derived.Test.YteooafgdmpbjeabV51
import Derived.Test.YteooafgdmpbjeabV43
import Derived.Test.YteooafgdmpbjeabV16
import Derived.OwnWalk
import Derived.Deep.RegionHeld3
namespace Go.Proofs.Yteooafgdmpbjeab
open Go.RowKit
namespace Sp
open Sc
set_option maxRecDepth 100000
theorem cells_int {w : World} {S : Nat → Prop} {a : Option Addr} {ks : List Nat} (h : RowV w S a 1 (ks.map fun (j : Nat) => [Value.int .i64 (j : Nat)])) (j : Nat) (hj : j < ks.length) :
    ∃ g o, a = some ⟨g, o, none⟩ ∧ S g ∧ ∀ W : World, W.heap[g]? = w.heap[g]? → W.cell? ⟨g, o + j, none⟩ = some (.int .i64 (ks[j] : Nat)) := by
  rcases h with h | ⟨g, o, ha, hg, hc⟩
  · rw [List.map_eq_nil_iff] at h; rw [h] at hj; cases hj
  · refine ⟨g, o, ha, hg, fun W hW => ?_⟩
    have := hc j (by simpa using hj) 0 (.int .i64 (ks[j] : Nat)) (by simp)
    rw [Nat.mul_one, Nat.add_zero] at this
    exact (World.cell?_of_block (a := ⟨g, o + j, none⟩) hW).trans this
structure TyL (W3 : World) (xb : Nat) (k : Kz) (an : Option Addr) (cn : Nat) (T : List Kz) (iv : Value) (wr : World) (j : Nat) (xk : Value) (us : List C4) : Prop where
  slot : iv = .int .i64 (j : Nat)
  le : j ≤ k.kids.length
  xat : wr.heap[xb]? = some (.cells #[.int .i64 k.kind, .string ⟨k.name.toArray⟩, .slice an k.names.length cn, xk] 31 (0, 0))
  row : KRow wr xb xk ((k.kids.take j).map (typT T)) us
  below : Below xb W3 wr
theorem TyL.next {W3 wr w5 w6 : World} {xb g cap cn j : Nat} {k : Kz} {an : Option Addr} {T : List Kz} {xk : Value} {us : List C4} {c : C4} {iv : Value} {o : Obj} (h : TyL W3 xb k an cn T (.int .i64 (j : Nat)) wr j xk us) (hj : j < k.kids.length) (hz : W3.heap.size = xb + 1) (hb5 : Below wr.heap.size wr w5)
    (hV : TzV w5 (fun g => wr.heap.size ≤ g ∧ g < w5.heap.size) (typT T k.kids[j]) c) (hown : w6.ownsRow (xb + 1) 31 4 (.slice (some ⟨g, 0, none⟩) (us.length + 1) cap) (us.length + 1) (us.flatMap C4.cells ++ c.cells))
    (hgr : (w5.alloc o).grownBy w6 xk.ownBlock) (hfr : xk.ownBlock = some g ∨ (w5.alloc o).heap.size ≤ g) (hiv : iv = .int .i64 ((j : Int) + 1)) :
    TyL W3 xb k an cn T iv (w6.setCell ⟨xb, 3, none⟩ (.slice (some ⟨g, 0, none⟩) (us.length + 1) cap)) (j + 1) (.slice (some ⟨g, 0, none⟩) (us.length + 1) cap) (us ++ [c]) := by
  have hz1 := h.below.size
  have hz5 := hb5.size
  have hbA : Below wr.heap.size wr (w5.alloc o) := hb5.alloc hz5 _
  have hzA : (w5.alloc o).heap.size = w5.heap.size + 1 := by simp
  have hlt := h.row.own.lt
  have r1 := h.row.below hbA
  have v1 : TzV (w5.alloc o) (KS (w5.alloc o) xb xk) (typT T k.kids[j]) c := hV.keep (fun g hg => ⟨by omega, by omega, fun e => by have := (hlt g e).2; omega⟩) (fun g hg => Below.heap_alloc _ _ _ hg.2)
  have r2 := r1.snoc v1 hown hgr (fun q e => by cases e; exact hfr)
  have hO : Only xb w6 (w6.setCell ⟨xb, 3, none⟩ (.slice (some ⟨g, 0, none⟩) (us.length + 1) cap)) := (Only.refl _ _).setCell _ _
  have r3 := r2.only hO
  have x6 : w6.heap[xb]? = some (.cells #[.int .i64 k.kind, .string ⟨k.name.toArray⟩, .slice an k.names.length cn, xk] 31 (0, 0)) :=
    (hgr.block xb (by omega) (fun e => by have := (hlt xb e.symm).1; omega)).trans ((hbA.block xb (by omega)).trans h.xat)
  have hsz := hgr.size
  refine ⟨by rw [hiv]; push_cast; rfl, by omega, by unfold World.setCell; simp [Array.getElem?_modify, x6], ?_, ?_⟩
  · rw [List.take_succ_eq_append_getElem hj, List.map_append, List.map_cons, List.map_nil]; exact r3
  · exact h.below.trans ((hbA.mono (by omega)).trans ((below_grown hgr (fun q e => by have := (hlt q e).1; omega) (by omega)).trans (below_set _ _ (Nat.le_refl _) (by omega))))
set_option maxHeartbeats 16000000 in
theorem ttype_in : ∀ (n i : Nat), i < n → ∀ (w : World) (tb rb nb mb sb m : Nat) (ty nu : Value) (T : List Kz), TabV w tb rb nb mb sb m ty nu T → (∀ i (h : i < T.length), ∀ j ∈ T[i].kids, j < i) → i < T.length →
    Calls Try.prog 22 #[.pointer (some ⟨tb, 0, none⟩), .int .i64 i] w fun e w' => ∃ c : C4, e = .returned (.agg #[.int .i64 c.k, .string c.n, .slice c.an c.ln c.cn, .slice c.ak c.lk c.ck]) ∧ TzV w' (fun g => w.heap.size ≤ g ∧ g < w'.heap.size) (typT T i) c ∧ Below w.heap.size w w'
  | 0, _, h => absurd h (Nat.not_lt_zero _)
  | n + 1, i, hin => by
    intro w tb rb nb mb sb m ty nu T hT hkid hi
    have IH := ttype_in n
    have hki := hkid i hi
    have hk8 := (hT.fit T[i] (List.getElem_mem hi)).toWfK.few
    have hn8 := (hT.fit T[i] (List.getElem_mem hi)).toWfK.names8
    have htt := typT_at hkid hi
    obtain ⟨W0, hW0⟩ : ∃ W0, W0 = w.alloc (.cells #[.int .i64 0, .string ⟨#[]⟩, .slice none 0 0, .slice none 0 0] 31) := ⟨_, rfl⟩
    have hz0 : W0.heap.size = w.heap.size + 1 := by rw [hW0]; simp
    have hb0 : Below w.heap.size w W0 := by rw [hW0]; exact (Below.refl _ _).alloc (Nat.le_refl _) _
    have hn0 : W0.heap[w.heap.size]? = some (.cells #[.int .i64 0, .string ⟨#[]⟩, .slice none 0 0, .slice none 0 0] 31 (0, 0)) := by rw [hW0]; exact heap_alloc_new w _
    have hT0 := hT.below hb0
    have C := tnode_in i W0 tb rb nb mb sb m ty nu T hT0 hi
    have HC := Lib.hid C; have HW0 := Lib.hid hW0; have HB0 := Lib.hid hb0; have HN0 := Lib.hid hn0; have HT0 := Lib.hid hT0; have HKID := Lib.hid hkid; have HIH := Lib.hid IH; have HKI := Lib.hid hki; have HTT := Lib.hid htt
    clear C hW0 hb0 hn0 hT hT0 hkid IH hki htt
    generalize T[i] = k at *
    go_enter Try.func22, Try.ntmps22
    go_upto_region 1 with fail
    rw [← HW0.out]
    clear HW0
    go_upto_region 2 with (go_at_call 39; (refine HC.out.mono ?_); rintro e w1 ⟨an, cn, ak, ck, rfl, r1, r2, b1⟩; have hz1 := b1.size; have HB1 := Lib.hid b1; have HR1 := Lib.hid r1; have HR2 := Lib.hid r2; clear b1 r1 r2)
    obtain ⟨W2, hW2⟩ : ∃ W2, W2 = w1.alloc (.cells #[.int .i64 k.kind, .string ⟨k.name.toArray⟩, .slice an k.names.length cn, .slice ak k.kids.length ck] 95) := ⟨_, rfl⟩
    have hz2 : W2.heap.size = w1.heap.size + 1 := by rw [hW2]; simp
    have hb2 : Below w1.heap.size w1 W2 := by rw [hW2]; exact (Below.refl _ _).alloc (Nat.le_refl _) _
    have hn2 : W2.heap[w1.heap.size]? = some (.cells #[.int .i64 k.kind, .string ⟨k.name.toArray⟩, .slice an k.names.length cn, .slice ak k.kids.length ck] 95 (0, 0)) := by rw [hW2]; exact heap_alloc_new w1 _
    rw [← hW2]
    obtain ⟨⟨n0, n1, n2, n3⟩, -⟩ := four_blk hn2
    have HB2 := Lib.hid hb2; have HZ2 := Lib.hid hz2
    clear hW2 hb2 hn2 hz2
    go_upto_region 3 with fail
    have hz2 := HZ2.out
    obtain ⟨W3, hW3⟩ : ∃ W3, W3 = W2.alloc (.cells #[.int .i64 k.kind, .string ⟨k.name.toArray⟩, .slice an k.names.length cn, .slice none 0 0] 31) := ⟨_, rfl⟩
    have hz3 : W3.heap.size = W2.heap.size + 1 := by rw [hW3]; simp
    have hb3 : Below W2.heap.size W2 W3 := by rw [hW3]; exact (Below.refl _ _).alloc (Nat.le_refl _) _
    have hx3 : W3.heap[W2.heap.size]? = some (.cells #[.int .i64 k.kind, .string ⟨k.name.toArray⟩, .slice an k.names.length cn, .slice none 0 0] 31 (0, 0)) := by rw [hW3]; exact heap_alloc_new W2 _
    have m3 : W3.cell? ⟨w1.heap.size, 3, none⟩ = some (.slice ak k.kids.length ck) := (hb3.cell (p := ⟨w1.heap.size, 3, none⟩) (by show w1.heap.size < _; omega)).trans n3
    have hr3 : W3.heap[w.heap.size]? = some (.cells #[.int .i64 0, .string ⟨#[]⟩, .slice none 0 0, .slice none 0 0] 31 (0, 0)) := (hb3.block _ (by omega)).trans ((HB2.out.block _ (by omega)).trans ((HB1.out.block _ (by omega)).trans HN0.out))
    rw [← hW3]
    have HB3 := Lib.hid hb3; have HR3 := Lib.hid hr3; have HX3 := Lib.hid hx3; have HZ3 := Lib.hid hz3
    have hy0 : w.heap.size < W0.heap.size := by omega
    have hy2 : w1.heap.size < W2.heap.size := by omega
    have hy3 : W2.heap.size < W3.heap.size := by omega
    have hb03 : Below W0.heap.size W0 W3 := HB1.out.trans ((HB2.out.mono (by omega)).trans (hb3.mono (by omega)))
    have HB03 := Lib.hid hb03
    clear hW3 hb3 hx3 hr3 n0 n1 n2 n3 hz3 hb03
    obtain ⟨xb, hxb⟩ : ∃ xb, xb = W2.heap.size := ⟨_, rfl⟩
    rw [← hxb] at HX3 HZ3 hy3 ⊢
    have HXQ : Hid (xb = w1.heap.size + 1 ∧ xb = W2.heap.size) := ⟨by omega, hxb⟩
    clear hxb hz2
    go_wp2_with fail
    clear m3
    go_loopw [26] (fun iv wr => ∃ j xk us, TyL W3 xb k an cn T iv wr j xk us) (fun iv _ => k.kids.length - (intOf iv).toNat)
    case atStart => exact ⟨0, _, [], rfl, Nat.zero_le _, HX3.out, KRow.start _ _, Below.refl _ _⟩
    case round =>
      obtain ⟨j, xk, us, h⟩ := hrel
      obtain rfl := h.slot
      have hle := h.le
      have hwr : xb + 1 ≤ wr.heap.size := by have := h.below.size; have := HZ3.out; omega
      have hbw : Below W0.heap.size W0 wr := HB03.out.trans (h.below.mono (by have := HXQ.out; omega))
      by_cases hj : j < k.kids.length
      · obtain ⟨gk, ok, rfl, hgk, hck⟩ := cells_int HR2.out j hj
        have hjz : (j : Int) < (k.kids.length : Int) := by omega
        have hj0 : (0 : Int) ≤ (j : Int) := by omega
        have kc : wr.cell? ⟨gk, ok + j, none⟩ = some (.int .i64 (k.kids[j] : Nat)) := hck wr ((h.below.block gk (by have := HXQ.out; omega)).trans ((HB3.out.block gk (by have := HXQ.out; omega)).trans (HB2.out.block gk hgk.2)))
        obtain ⟨xa, xc, rfl⟩ := own_sliceZ h.row.own
        have hul := h.row.len
        rw [List.length_map, List.length_take_of_le hle] at hul
        have hkj := HKI.out k.kids[j] (List.getElem_mem hj)
        have C5 := HIH.out k.kids[j] (by omega) wr.drew tb rb nb mb sb m ty nu T (HT0.out.below hbw.drew) HKID.out (by omega)
        obtain ⟨⟨x0, x1, x2, x3⟩, ⟨f0, f1, f2, f3⟩⟩ := four_blk h.xat
        have hxw : xb < wr.heap.size := by omega
        have H := Lib.hid h; have HC5 := Lib.hid C5
        have HUL := Lib.hid hul
        obtain ⟨kj, hkj'⟩ : ∃ kj, kj = k.kids[j] := ⟨_, rfl⟩
        have HKJ := Lib.hid hkj'
        rw [← hkj'] at kc HC5
        clear h C5 hck hbw hul hkj hkj'
        go_upto_region 6 with fail
        obtain ⟨i0, hi0, hz0', hz1', hz2'⟩ := info_parts infoTz
        have x3d : wr.drew.cell? ⟨xb, 3, none⟩ = some (.slice xa us.length xc) := x3
        have hu8 : us.length ≤ 8 := by have := HUL.out; omega
        go_region_law (first
          | (go_simp; go_at_call 22; (refine HC5.out.mono ?_); rintro e w5 ⟨c5, rfl, v5, b5⟩; have hy5 := b5.size; have hy5' : wr.heap.size ≤ w5.heap.size := hy5; have hx5 : xb < w5.heap.size := (by omega); have HV5 := Lib.hid v5; have HB5 : Hid (Below wr.heap.size wr w5) := Lib.hid ((Below.refl _ _).drew.trans b5); have E5 := Lib.hid ((b5.block xb hxw).trans H.out.xat); have R5 := Lib.hid (H.out.row.below HB5.out); clear v5 b5 x0 x1 x2 x3 x3d f0 f1 f2 f3; obtain ⟨⟨x0, x1, x2, x3⟩, ⟨f0, f1, f2, f3⟩⟩ := four_blk E5.out; obtain ⟨d1, d2, d3, d4, d5, d6, d7, d8⟩ := c5; dsimp only)
          | ((refine step_append_lies _ (by rfl) _ _ 29 (by rfl) (xb + 1) 31 i0 (.agg #[.int .i64 0, .string ⟨#[]⟩, .slice none 0 0, .slice none 0 0]) 4 72 Try.underlying29 hi0 hz0' hz1' hz2' rfl (by decide) (.slice xa us.length xc) us.length (us.flatMap C4.cells) (by rfl) (R5.out.below ((Below.refl _ _).alloc (Nat.le_refl _) _)).own ⟨w5.heap.size, 0, none⟩ 1 1 [.int .i64 d1, .string d2, .slice d3 d4 d5, .slice d6 d7 d8] (by rfl) (by rfl) (cells_newZ _ _ _) (fun x hx => by simp at hx; rcases hx with rfl | rfl | rfl | rfl <;> rfl) (by decide) (by unfold maxLen; omega) (by omega) (by simp; omega) (w5.heap.size + 1) (by simp) ?_); intro g cap w6 hown hgrow hat hlt6; have HOW := Lib.hid hown; have HGR := Lib.hid hgrow; have HAT := Lib.hid hat; have hgs := hgrow.size; simp at hgs; have E6 := Lib.hid ((hgrow.block xb (by simp; omega) (fun e => by have := (R5.out.own.lt _ e.symm).1; omega)).trans ((Below.heap_alloc _ _ _ (by omega)).trans E5.out)); clear x0 x1 x2 x3 f0 f1 f2 f3; obtain ⟨⟨x0, x1, x2, x3⟩, ⟨f0, f1, f2, f3⟩⟩ := four_blk E6.out; clear hown hgrow hat))
        all_goals
          have hn := H.out.next (k := k) (j := j) (c := ⟨d1, d2, d3, d4, d5, d6, d7, d8⟩) (by omega) HZ3.out HB5.out (by rw [← HKJ.out]; exact HV5.out) HOW.out HGR.out (HAT.out.imp id (fun e => by rw [e]; simp)) rfl
          have HN := Lib.hid hn
          clear hn
          go_wp2
          go_roundw
          case rel => exact ⟨j + 1, _, _, HN.out⟩
          case measure => simp [intOf]; omega
      · obtain rfl : j = k.kids.length := by omega
        have H := Lib.hid h
        clear h hbw
        obtain ⟨⟨x0, x1, x2, x3⟩, -⟩ := four_blk H.out.xat
        have hr4 : wr.heap[w.heap.size]? = _ := (H.out.below.block w.heap.size (by have := HXQ.out; omega)).trans HR3.out
        have HR4 := Lib.hid hr4
        obtain ⟨⟨r0, r1, r2, r3⟩, ⟨f0, f1, f2, f3⟩⟩ := four_blk hr4
        obtain ⟨xa, xc, rfl⟩ := own_sliceZ H.out.row.own
        clear hr4
        have hwx : w.heap.size < xb := by have := HXQ.out; omega
        have hul := H.out.row.len
        rw [List.length_map, List.take_length] at hul
        have HUL := Lib.hid hul
        clear hul
        go_wp2
        obtain ⟨W4, hW4⟩ : ∃ W4, W4 = (((wr.setCell ⟨w.heap.size, 0, none⟩ (.int .i64 k.kind)).setCell ⟨w.heap.size, 1, none⟩ (.string ⟨k.name.toArray⟩)).setCell ⟨w.heap.size, 2, none⟩ (.slice an k.names.length cn)).setCell ⟨w.heap.size, 3, none⟩ (.slice xa us.length xc) := ⟨_, rfl⟩
        have hx4 : W4.heap[w.heap.size]? = some (.cells #[.int .i64 k.kind, .string ⟨k.name.toArray⟩, .slice an k.names.length cn, .slice xa us.length xc] 31 (0, 0)) := by rw [hW4]; exact set_four HR4.out
        have hk4 : Only w.heap.size wr W4 := by rw [hW4]; exact ((((Only.refl w.heap.size _).setCell 0 _).setCell 1 _).setCell 2 _).setCell 3 _
        rw [← hW4]
        refine bodyPost_ret (v := .agg #[.int .i64 k.kind, .string ⟨k.name.toArray⟩, .slice an k.names.length cn, .slice xa us.length xc]) (results_cell_row rfl _ W4 w.heap.size 31 _ (0, 0) _ rfl hx4 Try.underlying31 rfl (by kernel_rfl)) rfl ?_
        have hz4 := hk4.size
        have hxq := HXQ.out
        have hb1 := HB1.out.size
        have e1 : W4.heap.size = wr.heap.size := by rw [hW4]; simp
        have keep : ∀ g, w.heap.size < g → g < wr.heap.size → W4.heap[g]? = wr.heap[g]? := fun g h1 h2 => hk4.block g h2 (fun e => by cases e; omega)
        have keep1 : ∀ g, g < w1.heap.size → wr.heap[g]? = w1.heap[g]? := fun g h1 => (H.out.below.block g (by omega)).trans ((HB3.out.block g (by omega)).trans (HB2.out.block g h1))
        refine ⟨⟨k.kind, ⟨k.name.toArray⟩, an, k.names.length, cn, xa, us.length, xc⟩, rfl, ?_, ?_⟩
        · rw [HTT.out]
          have hk := H.out.row
          have hv : ∀ i (h : i < (k.kids.map (typT T)).length) (h' : i < us.length), TzV W4 (fun g => w.heap.size ≤ g ∧ g < W4.heap.size) (k.kids.map (typT T))[i] us[i] := fun i h h' => by
            have hv1 := hk.val i (by rw [List.length_map, List.take_length]; simpa using h) h'
            simp only [List.take_length] at hv1
            exact hv1.keep (fun g hg => ⟨by have := hg.1; omega, by have := hg.2.1; omega⟩) (fun g hg => keep g (by have := hg.1; omega) hg.2.1)
          have hr := hk.row (fun g => w.heap.size ≤ g ∧ g < W4.heap.size) (fun g h1 h2 => ⟨by omega, by omega⟩)
          have hr2 : RowV W4 (fun g => w.heap.size ≤ g ∧ g < W4.heap.size) xa 4 (us.map C4.cells) := (hk.row (fun g => xb + 1 ≤ g ∧ g < wr.heap.size) (fun g h1 h2 => ⟨h1, h2⟩)).keep (fun g hg => ⟨by have := hg.1; omega, by have := hg.2; omega⟩) (fun g hg => keep g (by have := hg.1; omega) hg.2)
          have hn : RowV W4 (fun g => w.heap.size ≤ g ∧ g < W4.heap.size) an 1 (k.names.map fun n => [str n]) := HR1.out.keep (fun g hg => ⟨by have := hg.1; omega, by have := hg.2; omega⟩) (fun g hg => (keep g (by have := hg.1; omega) (by have := hg.2; omega)).trans (keep1 g hg.2))
          have hm := TzV.mk (w := W4) (S := fun g => w.heap.size ≤ g ∧ g < W4.heap.size) k.kind k.name k.names (k.kids.map (typT T)) an cn xa xc us (by rw [List.length_map]; exact HUL.out) hn hr2 hv
          rw [List.length_map, ← HUL.out] at hm
          exact hm
        · exact HB0.out.trans ((HB03.out.mono (by omega)).trans ((H.out.below.mono (by omega)).trans (hk4.below (Nat.le_refl _) (by omega))))
end Sp
end Go.Proofs.Yteooafgdmpbjeab
namespace Go.Proofs.Yteooafgdmpbjeab
open Go.RowKit
namespace Sp
open Sc
set_option maxRecDepth 100000
theorem lastN_at {β : Type} : ∀ (l : List (List UInt8 × β)) (i : Nat) (hi : i < l.length), (∀ j (hj : j < l.length), l[j].1 = l[i].1 → j = i) → lastN l l[i].1 = some l[i].2 := by
  apply snoc_ind
  · intro i hi; cases hi
  · intro l x ih i hi hu
    rw [lastN_snoc]
    by_cases h : i = l.length
    · subst h
      simp
    · have h2 : i < l.length := by simp at hi; omega
      have e : (l ++ [x])[i] = l[i] := List.getElem_append_left h2
      have hx : ¬ x.1 = (l ++ [x])[i].1 := fun he => h (hu l.length (by simp) (by simpa using he)).symm
      rw [if_neg hx]
      simp only [e]
      exact ih i h2 fun j hj he => hu j (by simp; omega) (by rw [e, List.getElem_append_left hj]; exact he)
theorem lastN_none {β : Type} {l : List (List UInt8 × β)} {s : List UInt8} (h : ∀ x ∈ l, x.1 ≠ s) : lastN l s = none := by
  unfold lastN
  rw [List.find?_eq_none.2 fun x hx => by simpa using h x (List.mem_reverse.1 hx)]
  rfl
/-- The functions' entries. -/
def entG (G : List GN) (vs : List Value) : List (List UInt8 × Value) := (G.map (·.1)).zip (List.zipWith (fun v (x : GN) => .agg #[v, .int .i64 (x.2.2 : Nat)]) vs G)
theorem entG_len {G : List GN} {vs : List Value} (h : vs.length = G.length) : (entG G vs).length = G.length := by simp [entG, h]
theorem entG_at {G : List GN} {vs : List Value} (h : vs.length = G.length) (i : Nat) (hi : i < G.length) : (entG G vs)[i]'(by rw [entG_len h]; exact hi) = (G[i].1, .agg #[vs[i], .int .i64 (G[i].2.2 : Nat)]) := by simp [entG]
theorem hasZ_anyE {l : List (List UInt8 × Value)} {s : List UInt8} : hasZ l s = true ↔ ∃ x ∈ l, x.1 = s := by simp [hasZ]
theorem zeroG (w : World) : (zeroValue 91).run Try.prog w = .ok (.agg #[.slice none 0 0, .int .i64 0]) w := by kernel_rfl
theorem ids_flat : ∀ ids : List Nat, ((ids.map fun j : Nat => (j : Int)).map (Value.int .i64)) = (ids.map fun (j : Nat) => [Value.int .i64 (j : Nat)]).flatten
  | [] => rfl
  | x :: r => by simpa using ids_flat r
theorem IdsV.clone {w : World} {v : Value} {ids : List Nat} (h : IdsV w v ids) (hl : ids.length ≤ 1000) :
    Calls Try.prog 38 #[v] w fun e w' => ∃ a c, e = .returned (.slice a ids.length c) ∧ RowV w' (fun g => w.heap.size ≤ g ∧ g < w'.heap.size) a 1 (ids.map fun (j : Nat) => [Value.int .i64 (j : Nat)]) ∧ Below w.heap.size w w' := by
  rcases h.2 with ⟨rfl, h0⟩ | ⟨g, cap, cur, rfl, -, -, -⟩
  · have e : ids = [] := List.length_eq_zero_iff.1 h0
    subst e
    refine (Try.slices_Clone_int_nil 0 0 w).mono ?_
    rintro e w' ⟨rfl, rfl⟩
    exact ⟨none, 0, rfl, .inl rfl, Below.refl _ _⟩
  · refine (Try.slices_Clone_int g 0 ids.length cap (ids.map fun j : Nat => (j : Int)) w (by simp) (by omega) (fun j hj => ?_)).mono ?_
    · have hj2 : j < ids.length := by simpa using hj
      have := h.cells (g := g) rfl j (.int .i64 (ids[j] : Nat)) (by simp [hj2])
      rw [addr_addZ] at this
      rw [Nat.zero_add, this]
      simp [hj2]
    · rintro e w' ⟨v', rfl, h1, -, h3⟩
      obtain ⟨a, c, rfl, hr⟩ := RowV.own (S := fun g => w.heap.size ≤ g ∧ g < w'.heap.size) (l := ids.map fun (j : Nat) => [Value.int .i64 (j : Nat)]) (by
        have e : ((ids.map fun j : Nat => (j : Int)).take ids.length).map (Value.int .i64) = (ids.map fun (j : Nat) => [Value.int .i64 (j : Nat)]).flatten := by
          rw [List.take_of_length_le (by simp)]; exact ids_flat ids
        rw [← e]; exact h1) (fun x hx => by obtain ⟨y, _, rfl⟩ := List.mem_map.1 hx; rfl) (by simp) (fun g hg => h1.lt g hg)
      exact ⟨a, c, rfl, hr, h3⟩
theorem own_kpS {W wr : World} {base sz n : Nat} {e : TypeId} {v : Value} {xs : List Value} (h : W.ownsRow base e sz v n xs) (hk : ∀ g, v.ownBlock = some g → wr.heap[g]? = W.heap[g]?) : wr.ownsRow base e sz v n xs := by
  rcases h.2 with ⟨rfl, h0⟩ | ⟨g, cap, cur, rfl, hg, hc, hr⟩
  · exact ⟨h.1, .inl ⟨rfl, h0⟩⟩
  · exact ⟨h.1, .inr ⟨g, cap, cur, rfl, hg, (hk g rfl).trans hc, hr⟩⟩
set_option maxHeartbeats 4000000 in
theorem tsig_in (i : Nat) (w : World) (tb rb nb mb sb m : Nat) (ty nu : Value) (T : List Kz) (G : List GN) (vs : List Value) (hT : TabV w tb rb nb mb sb m ty nu T) (hF : FnsV w sb G vs) (hi : i < G.length) (hu : ∀ j (hj : j < G.length), G[j].1 = G[i].1 → j = i) (hn : G[i].1.length ≤ 1000) (hl : G[i].2.1.length ≤ 1000) :
    Calls Try.prog 20 #[.pointer (some ⟨tb, 0, none⟩), .string ⟨G[i].1.toArray⟩] w fun e w' => ∃ a c, e = .returned (.tuple #[.slice a G[i].2.1.length c, .int .i64 (G[i].2.2 : Nat), .bool true]) ∧
      RowV w' (fun g => w.heap.size ≤ g ∧ g < w'.heap.size) a 1 (G[i].2.1.map fun (j : Nat) => [Value.int .i64 (j : Nat)]) ∧ Below w.heap.size w w' := by
  have hvl : i < vs.length := by rw [hF.len]; exact hi
  have hlk := TxtV.at_ok (l := entG G vs) hF.map Try.underlying64 (zeroG w) G[i].1 (le_max hn)
  have hel := entG_at hF.len i hi
  have hla := lastN_at (entG G vs) i (by rw [entG_len hF.len]; exact hi) (fun j hj he => by
    have hj2 : j < G.length := by rw [entG_len hF.len] at hj; exact hj
    rw [entG_at hF.len j hj2, hel] at he
    exact hu j hj2 he)
  have hhz : hasZ (entG G vs) G[i].1 = true := hasZ_anyE.2 ⟨_, List.getElem_mem (by rw [entG_len hF.len]; exact hi), by rw [hel]⟩
  simp only [hel] at hla
  rw [hla, hhz] at hlk
  have hr := hF.row i hi hvl
  obtain ⟨⟨-, -, -, t3, -⟩, -⟩ := five_blkF hT.box
  have htb := hT.tlt
  have CC : ∀ W, Below w.heap.size w W → IdsV W vs[i] G[i].2.1 := fun W hW => own_kpS hr (fun g hg => hW.block g (hr.lt g hg).2)
  have HCC := Lib.hid CC; have HLK := Lib.hid hlk
  obtain ⟨⟨nm, ids, res⟩, hg⟩ : ∃ g, G[i] = g := ⟨_, rfl⟩
  obtain ⟨v, hv⟩ : ∃ v, vs[i] = v := ⟨_, rfl⟩
  rw [hg, hv] at HCC
  rw [hg, hv] at HLK
  rw [hg] at hl ⊢
  dsimp only at HCC HLK hl ⊢
  have hlk := HLK.out
  simp only [Option.getD_some] at hlk
  obtain ⟨a0, c0, rfl⟩ : ∃ a0 c0, v = .slice a0 ids.length c0 := own_sliceZ (HCC.out w (Below.refl _ _))
  have HTL := Lib.hid htb
  clear CC hla hel hhz hr hu hn hg hv
  go_enter Try.func20, Try.ntmps20
  go_upto_region 2 with fail
  obtain ⟨W1, hW1⟩ : ∃ W1, W1 = w.alloc (.cells #[.slice a0 ids.length c0, .int .i64 (res : Nat)] 91) := ⟨_, rfl⟩
  have hb1 : Below w.heap.size w W1 := by rw [hW1]; exact (Below.refl _ _).alloc (Nat.le_refl _) _
  have hz1 : W1.heap.size = w.heap.size + 1 := by rw [hW1]; simp
  obtain ⟨⟨s0, s1⟩, -⟩ := two_blk (show W1.heap[w.heap.size]? = some (.cells #[.slice a0 ids.length c0, .int .i64 (res : Nat)] 91 (0, 0)) by rw [hW1]; exact heap_alloc_new w _)
  rw [← hW1]
  have CL := (HCC.out W1.drew hb1.drew).clone hl
  have HCL := Lib.hid CL; have HB1 := Lib.hid hb1
  have s0d : W1.drew.cell? ⟨w.heap.size, 0, none⟩ = some (.slice a0 ids.length c0) := s0
  have s1d : W1.drew.cell? ⟨w.heap.size, 1, none⟩ = some (.int .i64 (res : Nat)) := s1
  have hzw : w.heap.size < W1.heap.size := by omega
  clear hW1 hb1 CL hz1
  go_region_held3 (fun w' => w'.cell? ⟨w.heap.size, 0, none⟩ = some (.slice a0 ids.length c0) ∧ w'.cell? ⟨w.heap.size, 1, none⟩ = some (.int .i64 (res : Nat))) (go_keep) (first
    | (go_at_call 38; (refine HCL.out.mono ?_); rintro e w2 ⟨a, c, rfl, r2, b2⟩; have z0 := (b2.cell (p := ⟨w.heap.size, 0, none⟩) hzw).trans s0d; have z1 := (b2.cell (p := ⟨w.heap.size, 1, none⟩) hzw).trans s1d))
  go_wp2
  go_ret3
  exact ⟨a, c, rfl, r2.keep (fun g hg => ⟨by have := hg.1; have h2 : W1.drew.heap.size = W1.heap.size := rfl; omega, hg.2⟩) (fun _ _ => rfl), HB1.out.drew.trans (b2.mono HB1.out.size)⟩
set_option maxHeartbeats 4000000 in
theorem tsig_out (nm : List UInt8) (w : World) (tb rb nb mb sb m : Nat) (ty nu : Value) (T : List Kz) (G : List GN) (vs : List Value) (hT : TabV w tb rb nb mb sb m ty nu T) (hF : FnsV w sb G vs) (hn : nm.length ≤ 1000) (hno : ∀ x ∈ G, x.1 ≠ nm) :
    Calls Try.prog 20 #[.pointer (some ⟨tb, 0, none⟩), .string ⟨nm.toArray⟩] w fun e w' => e = .returned (.tuple #[.slice none 0 0, .int .i64 0, .bool false]) ∧ Below w.heap.size w w' := by
  have hlk := TxtV.at_ok (l := entG G vs) hF.map Try.underlying64 (zeroG w) nm (le_max hn)
  have hne : ∀ x ∈ entG G vs, x.1 ≠ nm := fun x hx => by
    obtain ⟨i, hi, rfl⟩ := List.mem_iff_getElem.1 hx
    have hi2 : i < G.length := by rw [entG_len hF.len] at hi; exact hi
    rw [entG_at hF.len i hi2]
    exact hno _ (List.getElem_mem hi2)
  have hhz : hasZ (entG G vs) nm = false := by
    cases h : hasZ (entG G vs) nm with
    | false => rfl
    | true => obtain ⟨x, hx, e⟩ := hasZ_anyE.1 h; exact absurd e (hne x hx)
  rw [lastN_none hne, hhz, Option.getD_none] at hlk
  obtain ⟨⟨-, -, -, t3, -⟩, -⟩ := five_blkF hT.box
  have htb := hT.tlt
  clear hne hhz hno hn
  go_enter Try.func20, Try.ntmps20
  go_upto_region 2 with fail
  obtain ⟨W1, hW1⟩ : ∃ W1, W1 = w.alloc (.cells #[.slice none 0 0, .int .i64 0] 91) := ⟨_, rfl⟩
  have hb1 : Below w.heap.size w W1 := by rw [hW1]; exact (Below.refl _ _).alloc (Nat.le_refl _) _
  have hz1 : W1.heap.size = w.heap.size + 1 := by rw [hW1]; simp
  obtain ⟨⟨s0, s1⟩, -⟩ := two_blk (show W1.heap[w.heap.size]? = some (.cells #[.slice none 0 0, .int .i64 0] 91 (0, 0)) by rw [hW1]; exact heap_alloc_new w _)
  rw [← hW1]
  have HB1 := Lib.hid hb1
  have s0d : W1.drew.cell? ⟨w.heap.size, 0, none⟩ = some (.slice none 0 0) := s0
  have s1d : W1.drew.cell? ⟨w.heap.size, 1, none⟩ = some (.int .i64 0) := s1
  have hzw : w.heap.size < W1.heap.size := by omega
  clear hW1 hb1 hz1
  go_region_held3 (fun w' => w'.cell? ⟨w.heap.size, 0, none⟩ = some (.slice none 0 0) ∧ w'.cell? ⟨w.heap.size, 1, none⟩ = some (.int .i64 0)) (go_keep) (first
    | (go_at_call 38; (refine (Try.slices_Clone_int_nil 0 0 _).mono ?_); rintro e w2 ⟨rfl, rfl⟩))
  go_wp2
  go_ret3
  exact ⟨rfl, HB1.out.drew⟩
end Sp
end Go.Proofs.Yteooafgdmpbjeab
