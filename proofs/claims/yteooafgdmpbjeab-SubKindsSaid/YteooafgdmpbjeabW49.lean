/- row.open: what a pair asks of its two types, names gone through. -/
import Derived.Test.YteooafgdmpbjeabW48
namespace Go.Proofs.Yteooafgdmpbjeab
open Go.RowKit
namespace Sp
open Sc
set_option maxRecDepth 100000
theorem openL_1 {h : List (Nat × Nat) → Nat → Nat → Bool × List (Nat × Nat)} {i : Nat} {x y : Kz} {S : List (Nat × Nat)} (hy : y.kind = 6) (hx : x.kind ≠ 6) : openL h i x y S = h S i (y.kids.getD 0 0) := by unfold openL; rw [if_pos ⟨hy, hx⟩]
theorem openL_2 {h : List (Nat × Nat) → Nat → Nat → Bool × List (Nat × Nat)} {i : Nat} {x y : Kz} {S : List (Nat × Nat)} (h1 : ¬ (y.kind = 6 ∧ x.kind ≠ 6)) (h2 : x.kind ≠ y.kind) : openL h i x y S = (false, S) := by unfold openL; rw [if_neg h1, if_pos h2]
theorem openL_3 {h : List (Nat × Nat) → Nat → Nat → Bool × List (Nat × Nat)} {i : Nat} {x y : Kz} {S : List (Nat × Nat)} (h2 : x.kind = y.kind) (h3 : y.kind = 4 ∨ y.kind = 5 ∨ y.kind = 6) : openL h i x y S = h S (x.kids.getD 0 0) (y.kids.getD 0 0) := by unfold openL; rw [if_neg (by rw [h2]; exact fun e => e.2 e.1), if_neg (by simpa using h2), if_pos h3]
theorem openL_7 {h : List (Nat × Nat) → Nat → Nat → Bool × List (Nat × Nat)} {i : Nat} {x y : Kz} {S : List (Nat × Nat)} (h2 : x.kind = y.kind) (h3 : y.kind = 7) : openL h i x y S = kidsL h x y y.names S := by unfold openL; rw [if_neg (by omega), if_neg (by simpa using h2), if_neg (by omega), if_pos h3]
theorem openL_8 {h : List (Nat × Nat) → Nat → Nat → Bool × List (Nat × Nat)} {i : Nat} {x y : Kz} {S : List (Nat × Nat)} (h2 : x.kind = y.kind) (h3 : y.kind = 8) : openL h i x y S = kidsL h x y x.names S := by unfold openL; rw [if_neg (by omega), if_neg (by simpa using h2), if_neg (by omega), if_neg (by omega), if_pos h3]
theorem openL_0 {h : List (Nat × Nat) → Nat → Nat → Bool × List (Nat × Nat)} {i : Nat} {x y : Kz} {S : List (Nat × Nat)} (h2 : x.kind = y.kind) (h3 : y.kind < 4 ∨ 8 < y.kind) : openL h i x y S = (true, S) := by unfold openL; rw [if_neg (by omega), if_neg (by simpa using h2), if_neg (by omega), if_neg (by omega), if_neg (by omega)]
theorem NodV.old {w w1 W : World} {ob : Nat} {x : Kz} {an ak : Option Addr} (h : NodV w w1 x an ak) (hob : ob < w.heap.size) (hb : Below w1.heap.size w1 W) :
    RowV W (Old W ob) an 1 (x.names.map fun n => [str n]) ∧ RowV W (Old W ob) ak 1 (x.kids.map fun (j : Nat) => [Value.int .i64 (j : Nat)]) :=
  ⟨h.1.keep (fun g hg => ⟨Nat.lt_of_lt_of_le hg.2 hb.size, by have := hg.1; omega⟩) (fun g hg => hb.block g hg.2), h.2.keep (fun g hg => ⟨Nat.lt_of_lt_of_le hg.2 hb.size, by have := hg.1; omega⟩) (fun g hg => hb.block g hg.2)⟩
def OpenP (f qb ob tb rb nb mb sb m : Nat) (ty nu : Value) (T : List Kz) (N : List NN) : Prop :=
  ∀ (S : List (Nat × Nat)) (a b : Nat) (w : World), RwL w qb ob tb rb nb mb sb m ty nu T N S → a < T.length → b < T.length → PrG T.length S → T.length * T.length < f + S.length →
    Calls Try.prog 51 #[.pointer (some ⟨qb, 0, none⟩), .agg #[.int .i64 (a : Nat), .int .i64 (b : Nat)]] w fun e w' => e = .returned (.bool (openL (holdsL T (openK T N 13) f) (openK T N 13 a) (T.getD (openK T N 13 a) default) (T.getD (openK T N 13 b) default) S).1) ∧ PrsV w' ob (openL (holdsL T (openK T N 13) f) (openK T N 13 a) (T.getD (openK T N 13 a) default) (T.getD (openK T N 13 b) default) S).2 ∧ Keeps (fun g => g = ob) w w'
set_option maxHeartbeats 8000000 in
theorem lopen_any (f qb ob tb rb nb mb sb m : Nat) (ty nu : Value) (T : List Kz) (N : List NN) (IH : HoldP f qb ob tb rb nb mb sb m ty nu T N) (hT : TabW T) (hO : OpL T N) : OpenP f qb ob tb rb nb mb sb m ty nu T N := by
  intro S a b w H ha hb hS hf
  obtain ⟨W0, hW0⟩ : ∃ W0, W0 = w.alloc (.cells #[.int .i64 (a : Nat), .int .i64 (b : Nat)] 84) := ⟨_, rfl⟩
  have hz0 : W0.heap.size = w.heap.size + 1 := by rw [hW0]; simp
  have hb0 : Below w.heap.size w W0 := by rw [hW0]; exact (Below.refl _ _).alloc (Nat.le_refl _) _
  have hn0 : W0.heap[w.heap.size]? = some (.cells #[.int .i64 (a : Nat), .int .i64 (b : Nat)] 84 (0, 0)) := by rw [hW0]; exact heap_alloc_new w _
  have hob := H.prs.lt
  have C1 := node_any a W0 qb ob tb rb nb mb sb m ty nu T N S (H.below hb0) hO ha
  have C2 := fun W (hW : Below W0.heap.size W0 W) => node_any b W qb ob tb rb nb mb sb m ty nu T N S ((H.below hb0).below hW) hO hb
  have hxm : T.getD (openK T N 13 a) default ∈ T := by rw [getD_at (hO.lt a ha)]; exact List.getElem_mem _
  have hym : T.getD (openK T N 13 b) default ∈ T := by rw [getD_at (hO.lt b hb)]; exact List.getElem_mem _
  have hxlt := kid_lt hT (by omega : 0 < T.length) (openK T N 13 a)
  have hylt := kid_lt hT (by omega : 0 < T.length) (openK T N 13 b)
  have hilt := hO.lt a ha
  generalize T.getD (openK T N 13 a) default = x at *
  generalize T.getD (openK T N 13 b) default = y at *
  generalize openK T N 13 a = i at *
  have hxw := hT.wf x hxm
  have hyw := hT.wf y hym
  have hx1 := hO.one x hxm
  have hy1 := hO.one y hym
  have CK := kids_any f qb ob tb rb nb mb sb m ty nu T N IH hT hO x y
  obtain ⟨P, hP⟩ : ∃ P, P = openL (holdsL T (openK T N 13) f) i x y S := ⟨_, rfl⟩
  rw [← hP]
  have HW0 := Lib.hid hW0; have HB0 := Lib.hid hb0; have HN0 := Lib.hid hn0; have HH := Lib.hid H; have HC1 := Lib.hid C1; have HC2 := Lib.hid C2; have HP := Lib.hid hP; have HIH := Lib.hid IH; have HS := Lib.hid hS; have HF := Lib.hid hf
  have HXLT := Lib.hid hxlt; have HYLT := Lib.hid hylt; have HXW := Lib.hid hxw; have HYW := Lib.hid hyw; have HX1 := Lib.hid hx1; have HY1 := Lib.hid hy1; have HCK := Lib.hid CK
  clear hW0 hb0 H C1 C2 hP IH hS hf hxlt hylt hxw hyw hx1 hy1 CK hxm hym hT hO
  obtain ⟨p0, p1⟩ := two_blkR hn0
  clear hn0
  go_enter Try.func51, Try.ntmps51
  go_upto_region 1 with fail
  rw [← HW0.out]
  clear HW0
  go_upto_region 2 with (go_at_call 69; (refine (HC1.out).mono ?_); rintro e w1 ⟨xan, xcn, xak, xck, rfl, v1, b1⟩; have hw1 := b1.size; have HVw1 := Lib.hid v1; have HBw1 := Lib.hid b1; clear v1 b1)
  obtain ⟨W2, hW2⟩ : ∃ W2, W2 = w1.alloc (.cells #[.int .i64 x.kind, .string ⟨x.name.toArray⟩, .slice xan x.names.length xcn, .slice xak x.kids.length xck] 95) := ⟨_, rfl⟩
  have hz2 : W2.heap.size = w1.heap.size + 1 := by rw [hW2]; simp
  have hb2 : Below w1.heap.size w1 W2 := by rw [hW2]; exact (Below.refl _ _).alloc (Nat.le_refl _) _
  have hx2 : W2.heap[w1.heap.size]? = some (.cells #[.int .i64 x.kind, .string ⟨x.name.toArray⟩, .slice xan x.names.length xcn, .slice xak x.kids.length xck] 95 (0, 0)) := by rw [hW2]; exact heap_alloc_new w1 _
  rw [← hW2]
  clear hW2 p0 p1
  have hb02 : Below W0.heap.size W0 W2 := HBw1.out.trans (hb2.mono (by omega))
  obtain ⟨p0, p1⟩ := two_blkR ((hb02.block w.heap.size (by omega)).trans HN0.out)
  have HX2 := Lib.hid hx2; have HB2 := Lib.hid hb2; have HB02 := Lib.hid hb02
  clear hx2 hb2 hb02
  go_upto_region 3 with (go_at_call 69; (refine (HC2.out W2 HB02.out).mono ?_); rintro e w3 ⟨yan, ycn, yak, yck, rfl, v3, b3⟩; have hw3 := b3.size; have HVw3 := Lib.hid v3; have HBw3 := Lib.hid b3; clear v3 b3)
  obtain ⟨W4, hW4⟩ : ∃ W4, W4 = w3.alloc (.cells #[.int .i64 y.kind, .string ⟨y.name.toArray⟩, .slice yan y.names.length ycn, .slice yak y.kids.length yck] 95) := ⟨_, rfl⟩
  have hz4 : W4.heap.size = w3.heap.size + 1 := by rw [hW4]; simp
  have hb4 : Below w3.heap.size w3 W4 := by rw [hW4]; exact (Below.refl _ _).alloc (Nat.le_refl _) _
  have hy4 : W4.heap[w3.heap.size]? = some (.cells #[.int .i64 y.kind, .string ⟨y.name.toArray⟩, .slice yan y.names.length ycn, .slice yak y.kids.length yck] 95 (0, 0)) := by rw [hW4]; exact heap_alloc_new w3 _
  rw [← hW4]
  clear hW4 p0 p1
  have hb24 : Below W2.heap.size W2 W4 := HBw3.out.trans (hb4.mono (by omega))
  have hb14 : Below w1.heap.size w1 W4 := HB2.out.trans (hb24.mono (by omega))
  have hb04 : Below w.heap.size w W4 := HB0.out.trans ((HB02.out.mono (by omega)).trans (hb24.mono (by omega)))
  obtain ⟨⟨x0, x1, x2, x3⟩, -⟩ := four_blk ((hb24.block w1.heap.size (by omega)).trans HX2.out)
  obtain ⟨⟨y0, y1, y2, y3⟩, -⟩ := four_blk hy4
  have hxr := HVw1.out.old (ob := ob) (by omega) hb14
  have hyr := HVw3.out.old (ob := ob) (by omega) hb4
  have H4 := HH.out.below hb04
  have HXR := Lib.hid hxr; have HYR := Lib.hid hyr; have HH4 := Lib.hid H4; have HB04 := Lib.hid hb04
  clear hb4 hy4 hb24 hb14 hb04 hxr hyr H4 HX2 HB2 HVw1 HVw3 HC1 HC2 HBw1 HBw3 HN0 HB02 HB0
  by_cases hA : y.kind = 6 ∧ x.kind ≠ 6
  · obtain ⟨hA1, hA2⟩ := hA
    have hp := HP.out
    rw [openL_1 hA1 hA2] at hp
    have hyl := HY1.out (.inr (.inr hA1))
    have hy0 : 0 < y.kids.length := by omega
    obtain ⟨gy, oy, rfl, hgy, hcy⟩ := int1_at HYR.out.2 0 hy0
    have cy := hcy W4 rfl
    rw [Nat.add_zero] at cy
    have hyz := HYLT.out 0
    rw [getD_of hy0] at hp hyz
    rw [hA1] at y0
    have hyl1 : (0 : Int) < (y.kids.length : Int) := by omega
    have tx : (x.kind == 6) = false := by simpa using hA2
    have CH := HIH.out S i y.kids[0] W4 HH4.out hilt hyz HS.out HF.out
    rw [← hp] at CH
    have HCH := Lib.hid CH
    clear hp hcy CH hyl hA1
    generalize y.kids[0] = c at *
    go_wp2_with (go_at_call 31; (with_reducible refine HCH.out.mono ?_); rintro e w5 ⟨rfl, hp5, hk5⟩; have HP5 := Lib.hid hp5; have HK5 := Lib.hid hk5; clear hp5 hk5)
    go_ret
    exact ⟨rfl, HP5.out, (Keeps.of_below HB04.out).trans HK5.out (fun g e => .inl e)⟩
  · by_cases hE : x.kind = y.kind
    · have hr := HYW.out.rng
      by_cases hk : y.kind = 4
      · have hp := HP.out
        rw [openL_3 hE (.inl hk)] at hp
        have hyl := HY1.out (.inl hk)
        have hxl := HX1.out (by rw [hE]; exact (.inl hk))
        have hy0 : 0 < y.kids.length := by omega
        have hx0 : 0 < x.kids.length := by omega
        obtain ⟨gx, ox, rfl, hgx, hcx⟩ := int1_at HXR.out.2 0 hx0
        obtain ⟨gy, oy, rfl, hgy, hcy⟩ := int1_at HYR.out.2 0 hy0
        have cx := hcx W4 rfl
        have cy := hcy W4 rfl
        rw [Nat.add_zero] at cx cy
        have hxz := HXLT.out 0
        have hyz := HYLT.out 0
        rw [getD_of hx0, getD_of hy0] at hp
        rw [getD_of hx0] at hxz
        rw [getD_of hy0] at hyz
        rw [hE, hk] at x0
        rw [hk] at y0
        have hyl1 : (0 : Int) < (y.kids.length : Int) := by omega
        have hxl1 : (0 : Int) < (x.kids.length : Int) := by omega
        have CH := HIH.out S x.kids[0] y.kids[0] W4.drew (HH4.out.below (Below.drew (Below.refl _ _))) hxz hyz HS.out HF.out
        rw [← hp] at CH
        have HCH := Lib.hid CH
        have hgx1 := hgx.1
        have hgx2 := hgx.2
        have hgy1 := hgy.1
        have hgy2 := hgy.2
        clear hp hcx hcy CH hyl hxl hk hE hA hgx hgy
        generalize x.kids[0] = d at *
        generalize y.kids[0] = c at *
        go_upto_region 11 with fail
        go_region_held3 (fun w' => w'.cell? ⟨w1.heap.size, 3, none⟩ = some (.slice (some ⟨gx, ox, none⟩) x.kids.length xck) ∧ w'.cell? ⟨w3.heap.size, 3, none⟩ = some (.slice (some ⟨gy, oy, none⟩) y.kids.length yck) ∧ w'.cell? ⟨gx, ox, none⟩ = some (.int .i64 (d : Nat)) ∧ w'.cell? ⟨gy, oy, none⟩ = some (.int .i64 (c : Nat))) (go_keep) (first
          | (go_at_call 31; (with_reducible refine HCH.out.mono ?_); rintro e w5 ⟨rfl, hp5, hk5⟩; have a1 := (World.cell?_of_block (a := ⟨w1.heap.size, 3, none⟩) (hk5.block w1.heap.size (by show _ < W4.heap.size; omega) (by omega))).trans x3; have a2 := (World.cell?_of_block (a := ⟨w3.heap.size, 3, none⟩) (hk5.block w3.heap.size (by show _ < W4.heap.size; omega) (by omega))).trans y3; have a3 := (World.cell?_of_block (a := ⟨gx, ox, none⟩) (hk5.block gx hgx1 hgx2)).trans cx; have a4 := (World.cell?_of_block (a := ⟨gy, oy, none⟩) (hk5.block gy hgy1 hgy2)).trans cy; have HP5 := Lib.hid hp5; have HK5 := Lib.hid hk5; clear hp5 hk5))
        go_wp2
        go_ret
        exact ⟨rfl, HP5.out, (Keeps.of_below HB04.out).trans HK5.out.undrew (fun g e => .inl e)⟩
      by_cases hk : y.kind = 5
      · have hp := HP.out
        rw [openL_3 hE (.inr (.inl hk))] at hp
        have hyl := HY1.out (.inr (.inl hk))
        have hxl := HX1.out (by rw [hE]; exact (.inr (.inl hk)))
        have hy0 : 0 < y.kids.length := by omega
        have hx0 : 0 < x.kids.length := by omega
        obtain ⟨gx, ox, rfl, hgx, hcx⟩ := int1_at HXR.out.2 0 hx0
        obtain ⟨gy, oy, rfl, hgy, hcy⟩ := int1_at HYR.out.2 0 hy0
        have cx := hcx W4 rfl
        have cy := hcy W4 rfl
        rw [Nat.add_zero] at cx cy
        have hxz := HXLT.out 0
        have hyz := HYLT.out 0
        rw [getD_of hx0, getD_of hy0] at hp
        rw [getD_of hx0] at hxz
        rw [getD_of hy0] at hyz
        rw [hE, hk] at x0
        rw [hk] at y0
        have hyl1 : (0 : Int) < (y.kids.length : Int) := by omega
        have hxl1 : (0 : Int) < (x.kids.length : Int) := by omega
        have CH := HIH.out S x.kids[0] y.kids[0] W4.drew (HH4.out.below (Below.drew (Below.refl _ _))) hxz hyz HS.out HF.out
        rw [← hp] at CH
        have HCH := Lib.hid CH
        have hgx1 := hgx.1
        have hgx2 := hgx.2
        have hgy1 := hgy.1
        have hgy2 := hgy.2
        clear hp hcx hcy CH hyl hxl hk hE hA hgx hgy
        generalize x.kids[0] = d at *
        generalize y.kids[0] = c at *
        go_upto_region 11 with fail
        go_region_held3 (fun w' => w'.cell? ⟨w1.heap.size, 3, none⟩ = some (.slice (some ⟨gx, ox, none⟩) x.kids.length xck) ∧ w'.cell? ⟨w3.heap.size, 3, none⟩ = some (.slice (some ⟨gy, oy, none⟩) y.kids.length yck) ∧ w'.cell? ⟨gx, ox, none⟩ = some (.int .i64 (d : Nat)) ∧ w'.cell? ⟨gy, oy, none⟩ = some (.int .i64 (c : Nat))) (go_keep) (first
          | (go_at_call 31; (with_reducible refine HCH.out.mono ?_); rintro e w5 ⟨rfl, hp5, hk5⟩; have a1 := (World.cell?_of_block (a := ⟨w1.heap.size, 3, none⟩) (hk5.block w1.heap.size (by show _ < W4.heap.size; omega) (by omega))).trans x3; have a2 := (World.cell?_of_block (a := ⟨w3.heap.size, 3, none⟩) (hk5.block w3.heap.size (by show _ < W4.heap.size; omega) (by omega))).trans y3; have a3 := (World.cell?_of_block (a := ⟨gx, ox, none⟩) (hk5.block gx hgx1 hgx2)).trans cx; have a4 := (World.cell?_of_block (a := ⟨gy, oy, none⟩) (hk5.block gy hgy1 hgy2)).trans cy; have HP5 := Lib.hid hp5; have HK5 := Lib.hid hk5; clear hp5 hk5))
        go_wp2
        go_ret
        exact ⟨rfl, HP5.out, (Keeps.of_below HB04.out).trans HK5.out.undrew (fun g e => .inl e)⟩
      by_cases hk : y.kind = 6
      · have hp := HP.out
        rw [openL_3 hE (.inr (.inr hk))] at hp
        have hyl := HY1.out (.inr (.inr hk))
        have hxl := HX1.out (by rw [hE]; exact (.inr (.inr hk)))
        have hy0 : 0 < y.kids.length := by omega
        have hx0 : 0 < x.kids.length := by omega
        obtain ⟨gx, ox, rfl, hgx, hcx⟩ := int1_at HXR.out.2 0 hx0
        obtain ⟨gy, oy, rfl, hgy, hcy⟩ := int1_at HYR.out.2 0 hy0
        have cx := hcx W4 rfl
        have cy := hcy W4 rfl
        rw [Nat.add_zero] at cx cy
        have hxz := HXLT.out 0
        have hyz := HYLT.out 0
        rw [getD_of hx0, getD_of hy0] at hp
        rw [getD_of hx0] at hxz
        rw [getD_of hy0] at hyz
        rw [hE, hk] at x0
        rw [hk] at y0
        have hyl1 : (0 : Int) < (y.kids.length : Int) := by omega
        have hxl1 : (0 : Int) < (x.kids.length : Int) := by omega
        have CH := HIH.out S x.kids[0] y.kids[0] W4.drew (HH4.out.below (Below.drew (Below.refl _ _))) hxz hyz HS.out HF.out
        rw [← hp] at CH
        have HCH := Lib.hid CH
        have hgx1 := hgx.1
        have hgx2 := hgx.2
        have hgy1 := hgy.1
        have hgy2 := hgy.2
        clear hp hcx hcy CH hyl hxl hk hE hA hgx hgy
        generalize x.kids[0] = d at *
        generalize y.kids[0] = c at *
        go_upto_region 11 with fail
        go_region_held3 (fun w' => w'.cell? ⟨w1.heap.size, 3, none⟩ = some (.slice (some ⟨gx, ox, none⟩) x.kids.length xck) ∧ w'.cell? ⟨w3.heap.size, 3, none⟩ = some (.slice (some ⟨gy, oy, none⟩) y.kids.length yck) ∧ w'.cell? ⟨gx, ox, none⟩ = some (.int .i64 (d : Nat)) ∧ w'.cell? ⟨gy, oy, none⟩ = some (.int .i64 (c : Nat))) (go_keep) (first
          | (go_at_call 31; (with_reducible refine HCH.out.mono ?_); rintro e w5 ⟨rfl, hp5, hk5⟩; have a1 := (World.cell?_of_block (a := ⟨w1.heap.size, 3, none⟩) (hk5.block w1.heap.size (by show _ < W4.heap.size; omega) (by omega))).trans x3; have a2 := (World.cell?_of_block (a := ⟨w3.heap.size, 3, none⟩) (hk5.block w3.heap.size (by show _ < W4.heap.size; omega) (by omega))).trans y3; have a3 := (World.cell?_of_block (a := ⟨gx, ox, none⟩) (hk5.block gx hgx1 hgx2)).trans cx; have a4 := (World.cell?_of_block (a := ⟨gy, oy, none⟩) (hk5.block gy hgy1 hgy2)).trans cy; have HP5 := Lib.hid hp5; have HK5 := Lib.hid hk5; clear hp5 hk5))
        go_wp2
        go_ret
        exact ⟨rfl, HP5.out, (Keeps.of_below HB04.out).trans HK5.out.undrew (fun g e => .inl e)⟩
      by_cases hk : y.kind = 7
      · have hp := HP.out
        rw [openL_7 hE hk] at hp
        have hf1 := HXW.out.form
        have hf2 := HYW.out.form
        rw [if_pos (by omega)] at hf1 hf2
        have CK := HCK.out y.names S W4 xan yan xak yak yan xcn ycn xck yck ycn HH4.out HS.out HF.out HXR.out.1 HXR.out.2 HYR.out.1 HYR.out.2 HYR.out.1 hf1 hf2 HXW.out.names8 HYW.out.names8 HYW.out.names8 HXLT.out HYLT.out
        rw [← hp] at CK
        rw [hE, hk] at x0
        rw [hk] at y0
        rw [hE, hk] at CK
        have HCK2 := Lib.hid CK
        clear hp CK hf1 hf2 hE hk hA HCK
        go_wp2_with (go_at_call 70; (with_reducible refine HCK2.out.mono ?_); rintro e w5 ⟨rfl, hp5, hk5⟩; have HP5 := Lib.hid hp5; have HK5 := Lib.hid hk5; clear hp5 hk5)
        go_ret
        exact ⟨rfl, HP5.out, (Keeps.of_below HB04.out).trans HK5.out (fun g e => .inl e)⟩
      by_cases hk : y.kind = 8
      · have hp := HP.out
        rw [openL_8 hE hk] at hp
        have hf1 := HXW.out.form
        have hf2 := HYW.out.form
        rw [if_pos (by omega)] at hf1 hf2
        have CK := HCK.out x.names S W4 xan yan xak yak xan xcn ycn xck yck xcn HH4.out HS.out HF.out HXR.out.1 HXR.out.2 HYR.out.1 HYR.out.2 HXR.out.1 hf1 hf2 HXW.out.names8 HYW.out.names8 HXW.out.names8 HXLT.out HYLT.out
        rw [← hp] at CK
        rw [hE, hk] at x0
        rw [hk] at y0
        rw [hE, hk] at CK
        have HCK2 := Lib.hid CK
        clear hp CK hf1 hf2 hE hk hA HCK
        go_wp2_with (go_at_call 70; (with_reducible refine HCK2.out.mono ?_); rintro e w5 ⟨rfl, hp5, hk5⟩; have HP5 := Lib.hid hp5; have HK5 := Lib.hid hk5; clear hp5 hk5)
        go_ret
        exact ⟨rfl, HP5.out, (Keeps.of_below HB04.out).trans HK5.out (fun g e => .inl e)⟩
      · have hp := HP.out
        rw [openL_0 hE (by omega)] at hp
        rw [hE] at x0
        have t4 : (y.kind == 4) = false := by simp; omega
        have t5 : (y.kind == 5) = false := by simp; omega
        have t6 : (y.kind == 6) = false := by simp; omega
        have t7 : (y.kind == 7) = false := by simp; omega
        have t8 : (y.kind == 8) = false := by simp; omega
        have HPP := Lib.hid hp
        clear hp hE hA hr HCK
        generalize y.kind = kd at *
        go_wp2
        go_ret
        exact ⟨ret_boolZ (by rw [HPP.out]), by rw [HPP.out]; exact HH4.out.prs, Keeps.of_below HB04.out⟩
    · have hp := HP.out
      rw [openL_2 hA hE] at hp
      have HPP := Lib.hid hp
      clear hp HCK
      have tE : (x.kind == y.kind) = false := by simpa using hE
      by_cases h6 : y.kind = 6
      · have hx6 : x.kind = 6 := by
          rcases Decidable.em (x.kind = 6) with h | h
          · exact h
          · exact absurd ⟨h6, h⟩ hA
        exact absurd (hx6.trans h6.symm) hE
      · have t6 : (y.kind == 6) = false := by simpa using h6
        clear h6 hA hE
        generalize y.kind = kd at *
        generalize x.kind = ke at *
        go_wp2
        go_ret
        exact ⟨ret_boolZ (by rw [HPP.out]), by rw [HPP.out]; exact HH4.out.prs, Keeps.of_below HB04.out⟩
end Sp
end Go.Proofs.Yteooafgdmpbjeab
