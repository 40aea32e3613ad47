/- ShapeBounds' walk: fields. -/
import Derived.Test.YtnnnjonodnkccaaZBndC
import Derived.Test.YtnnnjonodnkccaaDrawS
namespace Go.Proofs.Ytnnnjonodnkccaa
open Go.RowKit
namespace Sp
open Sc

def fldS (n : Nat) : Sz := ⟨.mk 7 [] ((List.range n).map fun i => [letB i]) (List.replicate n zI), [], []⟩
theorem bnd3_all : (List.range 4).all (fun m => fitS (fldS (7 + m)) && decide ((checkZ (fldS (7 + m))).map Int.ofNat = some (if m ≤ 1 then 0 else 3))) = true := by kernel_rfl
theorem bnd3_is {m : Nat} (h : m < 4) : fitS (fldS (7 + m)) = true ∧ (checkZ (fldS (7 + m))).map Int.ofNat = some (if m ≤ 1 then 0 else 3) := by
  have := List.all_eq_true.1 bnd3_all m (List.mem_range.2 h)
  simpa only [Bool.and_eq_true, decide_eq_true_eq] using this
def nmR (k : Nat) : List Value := (List.range k).map fun i => .string ⟨#[letB i]⟩
def kdR (k : Nat) : List Value := (List.replicate k cI).flatMap C4.cells
/-- What the operations of the statement yield (two rows). -/
structure DV (sb lb tb k : Nat) (xn xk : Value) (vals : Nat → Value) : Prop where
  v0 : vals 0 = .pointer (some ⟨tb, 2, none⟩)
  v1 : vals 1 = xn
  v2 : vals 2 = .slice (some ⟨lb, 0, none⟩) 16 16
  v3 : vals 3 = .int .i64 k
  v4 : vals 4 = .pointer (some ⟨lb, k, none⟩)
  v5 : vals 5 = .string ⟨#[letB k]⟩
  v8 : vals 8 = .pointer (some ⟨tb, 3, none⟩)
  v9 : vals 9 = xk
  v10 : vals 10 = .pointer (some ⟨sb, 0, none⟩)
  v11 : vals 11 = .agg #[.int .i64 2, .string ⟨#[]⟩, .slice none 0 0, .slice none 0 0]
  v14 : vals 14 = .pointer (some ⟨tb, 2, none⟩)
  v16 : vals 16 = .pointer (some ⟨tb, 3, none⟩)
/-- Memory while the statement runs. -/
structure DM (W0 : World) (B tb base k : Nat) (xn xk : Value) (vals : Nat → Value) (l6 l7 l12 l13 l15 l17 : Bool) (v : World) : Prop where
  sn : Side W0 base 9 1 xn k (nmR k) [.string ⟨#[letB k]⟩] l6 l7 (vals 6) (vals 7) v
  sk : Side W0 base 25 4 xk k (kdR k) cI.cells l12 l13 (vals 12) (vals 13) v
  ap : ApartV (curV xn (vals 7) l7) (curV xk (vals 13) l13)
  tat : v.heap[tb]? = some (.cells #[.int .i64 7, .string ⟨#[]⟩, if l15 then vals 7 else xn, if l17 then vals 13 else xk] 25 (0, 0))
  far : ∀ g, g < W0.heap.size → g ≠ tb → xn.ownBlock ≠ some g → xk.ownBlock ≠ some g → v.heap[g]? = W0.heap[g]?
  below : Below B W0 v
  size : W0.heap.size ≤ v.heap.size
structure DJ (W0 : World) (B sb lb tb base k : Nat) (xn xk : Value) (ops : Array Oper) (a0 : Act) (listed : Array Bool) (b : Act) (v : World) : Prop where
  size : listed.size = ops.size
  closed : Closed ops listed
  rest : ∃ vals : Nat → Value, Fr ops a0 vals listed b ∧ DV sb lb tb k xn xk vals ∧ DM W0 B tb base k xn xk vals (listed.getD 6 false) (listed.getD 7 false) (listed.getD 12 false) (listed.getD 13 false) (listed.getD 15 false) (listed.getD 17 false) v
theorem set_four2 {w : World} {b : Nat} {t : TypeId} {v0 v1 v2 v3 : Value} (h : w.heap[b]? = some (.cells #[v0, v1, v2, v3] t (0, 0))) (v : Value) : (w.setCell ⟨b, 2, none⟩ v).heap[b]? = some (.cells #[v0, v1, v, v3] t (0, 0)) := by
  unfold World.setCell; simp [Array.getElem?_modify, h]
theorem set_four3 {w : World} {b : Nat} {t : TypeId} {v0 v1 v2 v3 : Value} (h : w.heap[b]? = some (.cells #[v0, v1, v2, v3] t (0, 0))) (v : Value) : (w.setCell ⟨b, 3, none⟩ v).heap[b]? = some (.cells #[v0, v1, v2, v] t (0, 0)) := by
  unfold World.setCell; simp [Array.getElem?_modify, h]
theorem rep_getD (n i : Nat) : (Array.replicate n false).getD i false = false := by
  rw [Array.getD_eq_getD_getElem?]
  by_cases hi : i < n <;> simp [hi]
theorem DJ.quiet {W0 : World} {B sb lb tb base k : Nat} {xn xk : Value} {ops : Array Oper} {a0 b : Act} {listed : Array Bool} {v : World} {i : Nat} {o : Oper} {vals : Nat → Value} {Q : Exit → Act → World → Prop} (hz : listed.size = ops.size) (hC : Closed ops listed) (hi : i ∈ Region.ready .any ops listed) (hF : Fr ops a0 vals listed b) (hV : DV sb lb tb k xn xk vals) (hM : DM W0 B tb base k xn xk vals (listed.getD 6 false) (listed.getD 7 false) (listed.getD 12 false) (listed.getD 13 false) (listed.getD 15 false) (listed.getD 17 false) v)
    (hs : Slots ops a0.tmps.size) (ho : ops[i]? = some o) (hg : o.guard = none) (h9 : i ≠ 6 ∧ i ≠ 7 ∧ i ≠ 12 ∧ i ≠ 13 ∧ i ≠ 15 ∧ i ≠ 17) (hr : (execOp b.eval o).run Try.prog v = .ok (.value (vals i)) v) :
    wpOp Try.prog ops Q i (fun b' v' => DJ W0 B sb lb tb base k xn xk ops a0 (listed.setIfInBounds i true) b' v') b v := by
  refine wpOp_run ho hg hr ⟨by simp [hz], hC.put hi, vals, hF.put hs hz ho, hV, ?_⟩
  simp only [getD_setF]
  simpa [h9.1, h9.2.1, h9.2.2.1, h9.2.2.2.1, h9.2.2.2.2.1, h9.2.2.2.2.2] using hM

structure BRel3 (w0 : World) (sb m : Nat) (sv : Value) (wr : World) (k : Nat) (xn xk : Value) : Prop where
  slot : sv = .int .i64 k
  le : k ≤ 7 + m
  sat : wr.heap[sb]? = some (.cells #[.int .i64 2, .string ⟨#[]⟩, .slice none 0 0, .slice none 0 0, .slice none 0 0, .slice none 0 0] 29 (0, 0))
  lat : wr.heap[sb + 1]? = some letO
  tat : wr.heap[sb + 1 + 1]? = some (.cells #[.int .i64 7, .string ⟨#[]⟩, xn, xk] 25 (0, 0))
  names : wr.ownsRow (sb + 1 + 1 + 1) 9 1 xn k (nmR k)
  kids : wr.ownsRow (sb + 1 + 1 + 1) 25 4 xk k (kdR k)
  apart : ApartV xn xk
  below : Below w0.heap.size w0 wr

set_option maxRecDepth 100000 in
set_option maxHeartbeats 8000000 in
theorem ShapeBounds_3 (which n : Int) (w : World) (h1 : -9223372036854775808 ≤ which) (h2 : which ≤ 9223372036854775807) (h3 : -9223372036854775808 ≤ n) (h4 : n ≤ 9223372036854775807) (hq : which % 5 = 3) :
    Calls Try.prog 6 #[.int .i64 which, .int .i64 n] w fun e w' => e = .returned (.bool true) ∧ Below w.heap.size w w' := by
  obtain ⟨m, hm, hm4⟩ : ∃ m : Nat, n % 4 = m ∧ m < 4 := ⟨(n % 4).toNat, by omega, by omega⟩
  have HM := Lib.hid hm; have HQ := Lib.hid hq; clear hm hq
  obtain ⟨is, his, js, ks, ls⟩ := info_parts infoS
  obtain ⟨ik, hik, jk, kk, lk⟩ := info_parts infoTz
  have HIs := Lib.hid his; have HJs := Lib.hid js; have HKs := Lib.hid ks; have HLs := Lib.hid ls
  have HIk := Lib.hid hik; have HJk := Lib.hid jk; have HKk := Lib.hid kk; have HLk := Lib.hid lk
  clear his js ks ls hik jk kk lk
  go_enter Try.func6, Try.ntmps6
  go_wp2_with (go_at_call 12; (with_reducible refine (known_any _).mono ?_); rintro e w1 ⟨rfl, x1⟩; have HX1 := Lib.hid x1; clear x1)
  have hx1 := HX1.out.size
  go_wp2_with (first | (go_at_call 19; (with_reducible refine (within_is _ _ _ _ (by omega) (by omega) h3 h4 HM.out).mono ?_); rintro e w2 ⟨rfl, rfl⟩) | (go_at_call 19; (with_reducible refine (within_is _ _ _ _ (by omega) (by omega) h1 h2 HQ.out).mono ?_); rintro e w2 ⟨rfl, rfl⟩))
  go_loopw [13] (fun v wr => ∃ k x y, BRel3 w w1.heap.size m v wr k x y) (fun v _ => 7 + m - (intOf v).toNat)
  case atStart => exact ⟨0, .slice none 0 0, .slice none 0 0, rfl, Nat.zero_le _, by rw [blk_if, if_neg (by simp; omega), blk_if, if_neg (by simp), blk_if, if_pos rfl], by rw [blk_if, if_neg (by simp), blk_if, if_pos (by simp)]; rfl, by rw [blk_if, if_pos (by simp)], World.ownsRow_nil _ _ _ _, World.ownsRow_nil _ _ _ _, (fun g h => by cases h), ((HX1.out.alloc hx1 _).alloc (by simp; omega) _).alloc (by simp; omega) _⟩
  case round =>
    obtain ⟨k, x, y, h⟩ := hrel
    obtain rfl := h.slot
    have hk := h.le
    obtain ⟨⟨s0, s1, s2, s3, s4, s5⟩, ⟨g0, g1, g2, g3, g4, g5⟩⟩ := six_blkF h.sat
    obtain ⟨⟨t0, t1, t2, t3⟩, ⟨f0, f1, f2, f3⟩⟩ := four_blk h.tat
    have hz := (Array.getElem?_eq_some_iff.1 h.tat).1
    have hz1 : w1.heap.size + 1 < wr.heap.size := by omega
    have hz0 : w1.heap.size < wr.heap.size := by omega
    have hl := let_at h.lat k
    obtain ⟨xa, xc, rfl⟩ := own_sliceZ h.names
    obtain ⟨ya, yc, rfl⟩ := own_sliceZ h.kids
    by_cases hlt : k < 7 + m
    · have hl := hl (by omega)
      have hk0 : (0 : Int) ≤ (k : Int) := by omega
      have hk1 : (k : Int) < 16 := by omega
      have H := Lib.hid h; clear h
      go_wp2_with fail
      refine wp_region_by (DJ wr.drew w.heap.size w1.heap.size (w1.heap.size + 1) (w1.heap.size + 1 + 1) (w1.heap.size + 1 + 1 + 1) k (.slice xa k xc) (.slice ya k yc)) (by kernel_rfl) ?_ ?_ ?_
      · exact ⟨by simp, Closed.start _, fun i => match i with
          | 0 => .pointer (some ⟨w1.heap.size + 1 + 1, 2, none⟩)
          | 1 => .slice xa k xc
          | 2 => .slice (some ⟨w1.heap.size + 1, 0, none⟩) 16 16
          | 3 => .int .i64 k
          | 4 => .pointer (some ⟨w1.heap.size + 1, k, none⟩)
          | 5 => .string ⟨#[letB k]⟩
          | 8 => .pointer (some ⟨w1.heap.size + 1 + 1, 3, none⟩)
          | 9 => .slice ya k yc
          | 10 => .pointer (some ⟨w1.heap.size, 0, none⟩)
          | 11 => .agg #[.int .i64 2, .string ⟨#[]⟩, .slice none 0 0, .slice none 0 0]
          | 14 => .pointer (some ⟨w1.heap.size + 1 + 1, 2, none⟩)
          | 16 => .pointer (some ⟨w1.heap.size + 1 + 1, 3, none⟩)
          | _ => undef, Fr.start _ _ _, ⟨rfl, rfl, rfl, rfl, rfl, rfl, rfl, rfl, rfl, rfl, rfl, rfl⟩, by simp only [rep_getD]; exact ⟨Side.start (W0 := wr.drew) _ (show wr.drew.ownsRow _ _ _ _ _ _ from H.out.names) _ _, Side.start (W0 := wr.drew) _ (show wr.drew.ownsRow _ _ _ _ _ _ from H.out.kids) _ _, H.out.apart, H.out.tat, fun _ _ _ _ _ => rfl, Below.refl _ _, Nat.le_refl _⟩⟩
      · intro listed b v i hJ hi
        obtain ⟨hsz, hC, vals, hF, hV, hM⟩ := hJ
        obtain ⟨hl1, hi18⟩ := not_up hsz hi
        obtain ⟨_, o, ho, hdeps⟩ := mem_ready.1 hi
        have hi18 : i < 18 := hi18
        have hN := H.out.names.lt
        have hK := H.out.kids.lt
        have hfar : ∀ g, g < w1.heap.size + 1 + 1 → v.heap[g]? = wr.heap[g]? := fun g hg => hM.far g (by show g < wr.heap.size; omega) (by omega) (fun e => by have := (hN g e).1; omega) (fun e => by have := (hK g e).1; omega)
        have yl := let_at ((hfar (w1.heap.size + 1) (by omega)).trans H.out.lat) k (by omega)
        obtain ⟨⟨y0, y1, y2, y3, y4, y5⟩, _⟩ := six_blkF ((hfar w1.heap.size (by omega)).trans H.out.sat)
        have hc15 : listed.getD 15 false = true → ∀ j, j < 10 → listed.getD j false = true := fun h j hj => by
          obtain rfl | rfl | rfl | rfl | rfl | rfl | rfl | rfl | rfl | rfl : j = 0 ∨ j = 1 ∨ j = 2 ∨ j = 3 ∨ j = 4 ∨ j = 5 ∨ j = 6 ∨ j = 7 ∨ j = 8 ∨ j = 9 := by omega
          · exact hC 15 _ rfl h ⟨0, .phase⟩ (by simp) rfl
          · exact hC 15 _ rfl h ⟨1, .phase⟩ (by simp) rfl
          · exact hC 15 _ rfl h ⟨2, .phase⟩ (by simp) rfl
          · exact hC 15 _ rfl h ⟨3, .phase⟩ (by simp) rfl
          · exact hC 15 _ rfl h ⟨4, .phase⟩ (by simp) rfl
          · exact hC 15 _ rfl h ⟨5, .phase⟩ (by simp) rfl
          · exact hC 15 _ rfl h ⟨6, .phase⟩ (by simp) rfl
          · exact hC 15 _ rfl h ⟨7, .phase⟩ (by simp) rfl
          · exact hC 15 _ rfl h ⟨8, .phase⟩ (by simp) rfl
          · exact hC 15 _ rfl h ⟨9, .phase⟩ (by simp) rfl
        have hc17 : listed.getD 17 false = true → listed.getD 15 false = true := fun h => hC 17 _ rfl h ⟨15, .phase⟩ (by simp) rfl
        have htb : i < 10 → v.heap[w1.heap.size + 1 + 1]? = some (.cells #[.int .i64 7, .string ⟨#[]⟩, .slice xa k xc, .slice ya k yc] 25 (0, 0)) := fun hlt => by
          have a := hM.tat
          have l15 : listed.getD 15 false = false := by
            cases hh : listed.getD 15 false
            · rfl
            · have := hc15 hh i hlt; rw [hl1] at this; cases this
          have l17 : listed.getD 17 false = false := by
            cases hh : listed.getD 17 false
            · rfl
            · have := hc17 hh; rw [l15] at this; cases this
          rw [l15, l17] at a
          exact a
        obtain rfl | rfl | rfl | rfl | rfl | rfl | rfl | rfl | rfl | rfl | rfl | rfl | rfl | rfl | rfl | rfl | rfl | rfl : i = 0 ∨ i = 1 ∨ i = 2 ∨ i = 3 ∨ i = 4 ∨ i = 5 ∨ i = 8 ∨ i = 9 ∨ i = 10 ∨ i = 11 ∨ i = 14 ∨ i = 16 ∨ i = 6 ∨ i = 12 ∨ i = 7 ∨ i = 13 ∨ i = 15 ∨ i = 17 := by omega
        · cases ho
          have e := hF.old_is 12 (by rfl) rfl
          refine DJ.quiet hsz hC hi hF hV hM (Slots.of (by rfl)) rfl rfl (by decide) ?_
          rw [hV.v0]
          simp [execOp, go_sem, e]
        · cases ho
          obtain ⟨⟨z0, z1, z2, z3⟩, _⟩ := four_blk (htb (by decide))
          have e := hF.up 0 96 rfl (hdeps ⟨0, .data⟩ (by simp) rfl)
          rw [hV.v0] at e
          refine DJ.quiet hsz hC hi hF hV hM (Slots.of (by rfl)) rfl rfl (by decide) ?_
          rw [hV.v1]
          simp [execOp, go_sem, e, z2]
        · cases ho
          have e := hF.old_is 7 (by rfl) rfl
          refine DJ.quiet hsz hC hi hF hV hM (Slots.of (by rfl)) rfl rfl (by decide) ?_
          rw [hV.v2]
          simp [execOp, go_sem, e]
        · cases ho
          have e := hF.old_is 13 (by rfl) rfl
          refine DJ.quiet hsz hC hi hF hV hM (Slots.of (by rfl)) rfl rfl (by decide) ?_
          rw [hV.v3]
          simp [execOp, go_sem, e]
        · cases ho
          have e := hF.up 2 98 rfl (hdeps ⟨2, .data⟩ (by simp) rfl)
          rw [hV.v2] at e
          have f := hF.up 3 99 rfl (hdeps ⟨3, .data⟩ (by simp) rfl)
          rw [hV.v3] at f
          refine DJ.quiet hsz hC hi hF hV hM (Slots.of (by rfl)) rfl rfl (by decide) ?_
          rw [hV.v4]
          simp [execOp, go_sem, e, f, hk0, hk1]
        · cases ho
          have e := hF.up 4 100 rfl (hdeps ⟨4, .data⟩ (by simp) rfl)
          rw [hV.v4] at e
          refine DJ.quiet hsz hC hi hF hV hM (Slots.of (by rfl)) rfl rfl (by decide) ?_
          rw [hV.v5]
          simp [execOp, go_sem, e, yl]
        · cases ho
          have e := hF.old_is 12 (by rfl) rfl
          refine DJ.quiet hsz hC hi hF hV hM (Slots.of (by rfl)) rfl rfl (by decide) ?_
          rw [hV.v8]
          simp [execOp, go_sem, e]
        · cases ho
          obtain ⟨⟨z0, z1, z2, z3⟩, _⟩ := four_blk (htb (by decide))
          have e := hF.up 8 104 rfl (hdeps ⟨8, .data⟩ (by simp) rfl)
          rw [hV.v8] at e
          refine DJ.quiet hsz hC hi hF hV hM (Slots.of (by rfl)) rfl rfl (by decide) ?_
          rw [hV.v9]
          simp [execOp, go_sem, e, z3]
        · cases ho
          have e := hF.old_is 5 (by rfl) rfl
          refine DJ.quiet hsz hC hi hF hV hM (Slots.of (by rfl)) rfl rfl (by decide) ?_
          rw [hV.v10]
          simp [execOp, go_sem, e]
        · cases ho
          have e := hF.up 10 106 rfl (hdeps ⟨10, .data⟩ (by simp) rfl)
          rw [hV.v10] at e
          refine DJ.quiet hsz hC hi hF hV hM (Slots.of (by rfl)) rfl rfl (by decide) ?_
          rw [hV.v11]
          simp [execOp, go_sem, e, y0, y1, y2, y3]
        · cases ho
          have e := hF.old_is 12 (by rfl) rfl
          refine DJ.quiet hsz hC hi hF hV hM (Slots.of (by rfl)) rfl rfl (by decide) ?_
          rw [hV.v14]
          simp [execOp, go_sem, e]
        · cases ho
          have e := hF.old_is 12 (by rfl) rfl
          refine DJ.quiet hsz hC hi hF hV hM (Slots.of (by rfl)) rfl rfl (by decide) ?_
          rw [hV.v16]
          simp [execOp, go_sem, e]
        · cases ho
          have lx : listed.getD 7 false = false := by
            cases hh : listed.getD 7 false
            · rfl
            · have := hC 7 _ rfl hh ⟨6, .data⟩ (by simp) rfl
              rw [hl1] at this; cases this
          have e := hF.up 5 101 rfl (hdeps ⟨5, .data⟩ (by simp) rfl)
          rw [hV.v5] at e
          obtain ⟨vals', hvals⟩ : ∃ vals' : Nat → Value, vals' = fun j => if j = 6 then .slice (some ⟨v.heap.size, 0, none⟩) 1 1 else vals j := ⟨_, rfl⟩
          have hF' : Fr _ _ vals' listed b := hF.congr (fun i h => by rw [hvals]; exact if_neg (by rintro rfl; rw [hl1] at h; cases h))
          have hV' : DV w1.heap.size (w1.heap.size + 1) (w1.heap.size + 1 + 1) k (.slice xa k xc) (.slice ya k yc) vals' := by rw [hvals]; exact ⟨hV.v0, hV.v1, hV.v2, hV.v3, hV.v4, hV.v5, hV.v8, hV.v9, hV.v10, hV.v11, hV.v14, hV.v16⟩
          have hn : vals' 6 = .slice (some ⟨v.heap.size, 0, none⟩) 1 1 := by rw [hvals]; rfl
          have hsame : ∀ j, j ≠ 6 → vals' j = vals j := fun j hj => by rw [hvals]; exact if_neg hj
          refine wpOp_run (w' := v.alloc (.cells #[.string ⟨#[letB k]⟩] 9)) (v := vals' 6) rfl rfl ?_ ⟨by simpa using hsz, hC.put hi, vals', hF'.put (Slots.of (by rfl)) hsz rfl, hV', ?_⟩
          · rw [hn]
            simp [execOp, go_sem, e]
          · have gr : v.grownBy (v.alloc (.cells #[.string ⟨#[letB k]⟩] 9)) none := World.grownBy_alloc v _ _
            simp only [getD_setF, hl1, lx, hsz]
            have a := hM.sn
            have c := hM.ap
            rw [hl1, lx] at a
            rw [lx] at c
            exact ⟨(by rw [hn, hsame 7 (by decide)]; exact a.lay hM.size), (by rw [hsame 12 (by decide), hsame 13 (by decide)]; simpa using hM.sk.keep gr (fun g e => by cases e)), by rw [hsame 7 (by decide), hsame 13 (by decide)]; simpa using c, by rw [hsame 7 (by decide), hsame 13 (by decide)]; simpa using blk_allocZ hM.tat _, fun g h1 h2 h3 h4 => (Below.heap_alloc _ _ _ (Nat.lt_of_lt_of_le h1 hM.size)).trans (hM.far g h1 h2 h3 h4), hM.below.alloc (Nat.le_trans (by have := H.out.below.size; exact this) hM.size) _, by have := hM.size; simp at this ⊢; omega⟩
        · cases ho
          have lx : listed.getD 13 false = false := by
            cases hh : listed.getD 13 false
            · rfl
            · have := hC 13 _ rfl hh ⟨12, .data⟩ (by simp) rfl
              rw [hl1] at this; cases this
          have e := hF.up 11 107 rfl (hdeps ⟨11, .data⟩ (by simp) rfl)
          rw [hV.v11] at e
          obtain ⟨vals', hvals⟩ : ∃ vals' : Nat → Value, vals' = fun j => if j = 12 then .slice (some ⟨v.heap.size, 0, none⟩) 1 1 else vals j := ⟨_, rfl⟩
          have hF' : Fr _ _ vals' listed b := hF.congr (fun i h => by rw [hvals]; exact if_neg (by rintro rfl; rw [hl1] at h; cases h))
          have hV' : DV w1.heap.size (w1.heap.size + 1) (w1.heap.size + 1 + 1) k (.slice xa k xc) (.slice ya k yc) vals' := by rw [hvals]; exact ⟨hV.v0, hV.v1, hV.v2, hV.v3, hV.v4, hV.v5, hV.v8, hV.v9, hV.v10, hV.v11, hV.v14, hV.v16⟩
          have hn : vals' 12 = .slice (some ⟨v.heap.size, 0, none⟩) 1 1 := by rw [hvals]; rfl
          have hsame : ∀ j, j ≠ 12 → vals' j = vals j := fun j hj => by rw [hvals]; exact if_neg hj
          refine wpOp_run (w' := v.alloc (.cells #[.int .i64 2, .string ⟨#[]⟩, .slice none 0 0, .slice none 0 0] 25)) (v := vals' 12) rfl rfl ?_ ⟨by simpa using hsz, hC.put hi, vals', hF'.put (Slots.of (by rfl)) hsz rfl, hV', ?_⟩
          · rw [hn]
            simp [execOp, go_sem, e]
          · have gr : v.grownBy (v.alloc (.cells #[.int .i64 2, .string ⟨#[]⟩, .slice none 0 0, .slice none 0 0] 25)) none := World.grownBy_alloc v _ _
            simp only [getD_setF, hl1, lx, hsz]
            have a := hM.sk
            have c := hM.ap
            rw [hl1, lx] at a
            rw [lx] at c
            exact ⟨(by rw [hsame 6 (by decide), hsame 7 (by decide)]; simpa using hM.sn.keep gr (fun g e => by cases e)), (by rw [hn, hsame 13 (by decide)]; exact a.lay hM.size), by rw [hsame 7 (by decide), hsame 13 (by decide)]; simpa using c, by rw [hsame 7 (by decide), hsame 13 (by decide)]; simpa using blk_allocZ hM.tat _, fun g h1 h2 h3 h4 => (Below.heap_alloc _ _ _ (Nat.lt_of_lt_of_le h1 hM.size)).trans (hM.far g h1 h2 h3 h4), hM.below.alloc (Nat.le_trans (by have := H.out.below.size; exact this) hM.size) _, by have := hM.size; simp at this ⊢; omega⟩
        · cases ho
          have la := hdeps ⟨6, .data⟩ (by simp) rfl
          have lb := hdeps ⟨1, .data⟩ (by simp) rfl
          have a := hM.sn
          rw [la, hl1] at a
          have c := hM.ap
          rw [hl1] at c
          obtain ⟨g, t1, t2, t3, t4⟩ := a.tmp rfl rfl
          have hW : w.heap.size ≤ wr.heap.size := H.out.below.size
          have hvz : wr.heap.size ≤ v.heap.size := hM.size
          refine wpOp_wp rfl rfl (Sh.wp_append_fresh (.tmp 97) (.tmp 102) 22 rfl (w1.heap.size + 1 + 1 + 1) 9 is (.string ⟨#[]⟩) 1 16 Try.underlying22 HIs.out HJs.out HKs.out HLs.out rfl (by decide) (.slice xa k xc) k (nmR k) ((hF.eval (i := 1) rfl lb).trans hV.v1) (a.row rfl) ⟨g, 0, none⟩ 1 1 [.string ⟨#[letB k]⟩] ((hF.eval (i := 6) rfl la).trans t1) rfl (fun j u hu => by rw [addr_addZ]; simp only [World.cell?, t4]; simpa using hu) (by intro z hz; simp at hz; subst hz; rfl) (by unfold maxLen; omega) (by omega) (by omega) ?_)
          intro y w3 hown hgr hfr
          obtain ⟨vals', hvals⟩ : ∃ vals' : Nat → Value, vals' = fun j => if j = 7 then y else vals j := ⟨_, rfl⟩
          have hF' : Fr _ _ vals' listed b := hF.congr (fun i h => by rw [hvals]; exact if_neg (by rintro rfl; rw [hl1] at h; cases h))
          have hV' : DV w1.heap.size (w1.heap.size + 1) (w1.heap.size + 1 + 1) k (.slice xa k xc) (.slice ya k yc) vals' := by rw [hvals]; exact ⟨hV.v0, hV.v1, hV.v2, hV.v3, hV.v4, hV.v5, hV.v8, hV.v9, hV.v10, hV.v11, hV.v14, hV.v16⟩
          have hn : vals' 7 = y := by rw [hvals]; rfl
          have hsame : ∀ j, j ≠ 7 → vals' j = vals j := fun j hj => by rw [hvals]; exact if_neg hj
          have hx : ∀ g, (Value.slice xa k xc).ownBlock = some g → w1.heap.size + 1 + 1 + 1 ≤ g ∧ g < wr.heap.size := hN
          refine ⟨by simpa using hsz, hC.put hi, vals', hn ▸ hF'.put (Slots.of (by rfl)) hsz rfl, hV', ?_⟩
          simp only [getD_setF, hl1, la, hsz]
          have ko := hM.sk.keep hgr (fun g e => ⟨(hx g e).2, c g e⟩)
          have ap : ApartV y (curV (.slice ya k yc) (vals 13) (listed.getD 13 false)) := ApartV.app c hfr (fun g hg => (hM.sk.cur_lt g hg).2)
          have tt := (hgr.block (w1.heap.size + 1 + 1) (by omega) (fun e => by have := (hx _ e.symm).1; omega)).trans hM.tat
          have l15 : listed.getD 15 false = false := by
            cases hh : listed.getD 15 false
            · rfl
            · have := hc15 hh 7 (by omega); rw [hl1] at this; cases this
          exact ⟨(by rw [hn, hsame 6 (by decide)]; exact a.app hM.size hown hfr), (by rw [hsame 12 (by decide), hsame 13 (by decide)]; simpa using ko), (by rw [hn, hsame 13 (by decide)]; simpa [curV] using ap), (by rw [hsame 13 (by decide)]; rw [l15] at tt ⊢; simpa using tt), fun g h1 h2 h3 h4 => (hgr.block g (Nat.lt_of_lt_of_le h1 hM.size) (fun e => h3 e.symm)).trans (hM.far g h1 h2 h3 h4), hM.below.trans (below_grown hgr (fun g e => by have := (hx g e).1; omega) (by omega)), Nat.le_trans hM.size hgr.size⟩
        · cases ho
          have la := hdeps ⟨12, .data⟩ (by simp) rfl
          have lb := hdeps ⟨9, .data⟩ (by simp) rfl
          have a := hM.sk
          rw [la, hl1] at a
          have c := hM.ap
          rw [hl1] at c
          obtain ⟨g, t1, t2, t3, t4⟩ := a.tmp rfl rfl
          have hW : w.heap.size ≤ wr.heap.size := H.out.below.size
          have hvz : wr.heap.size ≤ v.heap.size := hM.size
          refine wpOp_wp rfl rfl (Sh.wp_append_fresh (.tmp 105) (.tmp 108) 23 rfl (w1.heap.size + 1 + 1 + 1) 25 ik (.agg #[.int .i64 0, .string ⟨#[]⟩, .slice none 0 0, .slice none 0 0]) 4 72 Try.underlying23 HIk.out HJk.out HKk.out HLk.out rfl (by decide) (.slice ya k yc) k (kdR k) ((hF.eval (i := 9) rfl lb).trans hV.v9) (a.row rfl) ⟨g, 0, none⟩ 1 1 cI.cells ((hF.eval (i := 12) rfl la).trans t1) rfl (fun j u hu => by rw [addr_addZ]; simp only [World.cell?, t4]; simpa using hu) (by exact C4.one cI) (by unfold maxLen; omega) (by omega) (by omega) ?_)
          intro y w3 hown hgr hfr
          obtain ⟨vals', hvals⟩ : ∃ vals' : Nat → Value, vals' = fun j => if j = 13 then y else vals j := ⟨_, rfl⟩
          have hF' : Fr _ _ vals' listed b := hF.congr (fun i h => by rw [hvals]; exact if_neg (by rintro rfl; rw [hl1] at h; cases h))
          have hV' : DV w1.heap.size (w1.heap.size + 1) (w1.heap.size + 1 + 1) k (.slice xa k xc) (.slice ya k yc) vals' := by rw [hvals]; exact ⟨hV.v0, hV.v1, hV.v2, hV.v3, hV.v4, hV.v5, hV.v8, hV.v9, hV.v10, hV.v11, hV.v14, hV.v16⟩
          have hn : vals' 13 = y := by rw [hvals]; rfl
          have hsame : ∀ j, j ≠ 13 → vals' j = vals j := fun j hj => by rw [hvals]; exact if_neg hj
          have hx : ∀ g, (Value.slice ya k yc).ownBlock = some g → w1.heap.size + 1 + 1 + 1 ≤ g ∧ g < wr.heap.size := hK
          refine ⟨by simpa using hsz, hC.put hi, vals', hn ▸ hF'.put (Slots.of (by rfl)) hsz rfl, hV', ?_⟩
          simp only [getD_setF, hl1, la, hsz]
          have ko := hM.sn.keep hgr (fun g e => ⟨(hx g e).2, c.symm g e⟩)
          have ap : ApartV (curV (.slice xa k xc) (vals 7) (listed.getD 7 false)) y := (ApartV.app c.symm hfr (fun g hg => (hM.sn.cur_lt g hg).2)).symm
          have tt := (hgr.block (w1.heap.size + 1 + 1) (by omega) (fun e => by have := (hx _ e.symm).1; omega)).trans hM.tat
          have l17 : listed.getD 17 false = false := by
            cases hh : listed.getD 17 false
            · rfl
            · have := hC 17 _ rfl hh ⟨13, .phase⟩ (by simp) rfl
              rw [hl1] at this; cases this
          exact ⟨(by rw [hsame 6 (by decide), hsame 7 (by decide)]; simpa using ko), (by rw [hn, hsame 12 (by decide)]; exact a.app hM.size hown hfr), (by rw [hn, hsame 7 (by decide)]; simpa [curV] using ap), (by rw [hsame 7 (by decide)]; rw [l17] at tt ⊢; simpa using tt), fun g h1 h2 h3 h4 => (hgr.block g (Nat.lt_of_lt_of_le h1 hM.size) (fun e => h4 e.symm)).trans (hM.far g h1 h2 h3 h4), hM.below.trans (below_grown hgr (fun g e => by have := (hx g e).1; omega) (by omega)), Nat.le_trans hM.size hgr.size⟩
        · cases ho
          have l7 := hdeps ⟨7, .data⟩ (by simp) rfl
          have l13 := hdeps ⟨13, .chain⟩ (by simp) rfl
          have l17 : listed.getD 17 false = false := by
            cases hh : listed.getD 17 false
            · rfl
            · have := hc17 hh; rw [hl1] at this; cases this
          have tt := hM.tat
          rw [hl1, l17] at tt
          have a := hM.sn
          have a2 := hM.sk
          have c := hM.ap
          rw [l7] at a c
          rw [l13] at a2 c
          have hW : w.heap.size ≤ wr.heap.size := H.out.below.size
          have hvz : wr.heap.size ≤ v.heap.size := hM.size
          obtain ⟨va, vc, hv'⟩ := own_sliceZ (a.done rfl)
          obtain ⟨⟨z0, z1, z2, z3⟩, ⟨q0, q1, q2, q3⟩⟩ := four_blk tt
          have e := hF.up 14 110 rfl (hdeps ⟨14, .data⟩ (by simp) rfl)
          have f := hF.up 7 103 rfl (hdeps ⟨7, .data⟩ (by simp) rfl)
          rw [hV.v14] at e
          rw [hv'] at f
          have gr : v.grownBy (v.setCell ⟨w1.heap.size + 1 + 1, 2, none⟩ (.slice va (k + 1) vc)) (some (w1.heap.size + 1 + 1)) := (Only.refl (w1.heap.size + 1 + 1) v).setCell 2 _
          have k1 := a.keep gr (fun g e => by cases e; exact ⟨hz, fun e2 => by have := (a.cur_lt _ e2).1; omega⟩)
          have k2 := a2.keep gr (fun g e => by cases e; exact ⟨hz, fun e2 => by have := (a2.cur_lt _ e2).1; omega⟩)
          have tn := set_four2 tt (.slice va (k + 1) vc)
          refine wpOp_wp rfl rfl ?_
          unfold Oper.wp Oper.upon
          simp [execOp, go_sem, e, f, z2, q2]
          refine ⟨by simpa using hsz, hC.put hi, vals, hF.put (i := 15) (Slots.of (by rfl)) hsz rfl, hV, ?_⟩
          simp only [getD_setF, hl1, l7, l13, l17, hsz]
          exact ⟨by simpa using k1, by simpa using k2, by simpa using c, by rw [hv']; simpa using tn, fun g h1 h2 h3 h4 => (gr.block g (Nat.lt_of_lt_of_le h1 hM.size) (fun e => h2 (by cases e; rfl))).trans (hM.far g h1 h2 h3 h4), hM.below.trans (below_grown gr (fun g e => by cases e; omega) (by omega)), Nat.le_trans hM.size gr.size⟩
        · cases ho
          have l13 := hdeps ⟨13, .data⟩ (by simp) rfl
          have l15 := hdeps ⟨15, .chain⟩ (by simp) rfl
          have l7 := hdeps ⟨7, .phase⟩ (by simp) rfl
          have tt := hM.tat
          rw [l15, hl1] at tt
          have a := hM.sn
          have a2 := hM.sk
          have c := hM.ap
          rw [l7] at a c
          rw [l13] at a2 c
          have hW : w.heap.size ≤ wr.heap.size := H.out.below.size
          have hvz : wr.heap.size ≤ v.heap.size := hM.size
          obtain ⟨va, vc, hv'⟩ := own_sliceZ (a2.done rfl)
          obtain ⟨⟨z0, z1, z2, z3⟩, ⟨q0, q1, q2, q3⟩⟩ := four_blk tt
          have e := hF.up 16 111 rfl (hdeps ⟨16, .data⟩ (by simp) rfl)
          have f := hF.up 13 109 rfl (hdeps ⟨13, .data⟩ (by simp) rfl)
          rw [hV.v16] at e
          rw [hv'] at f
          have gr : v.grownBy (v.setCell ⟨w1.heap.size + 1 + 1, 3, none⟩ (.slice va (k + 1) vc)) (some (w1.heap.size + 1 + 1)) := (Only.refl (w1.heap.size + 1 + 1) v).setCell 3 _
          have k1 := a.keep gr (fun g e => by cases e; exact ⟨hz, fun e2 => by have := (a.cur_lt _ e2).1; omega⟩)
          have k2 := a2.keep gr (fun g e => by cases e; exact ⟨hz, fun e2 => by have := (a2.cur_lt _ e2).1; omega⟩)
          have tn := set_four3 tt (.slice va (k + 1) vc)
          refine wpOp_wp rfl rfl ?_
          unfold Oper.wp Oper.upon
          simp [execOp, go_sem, e, f, z3, q3]
          refine ⟨by simpa using hsz, hC.put hi, vals, hF.put (i := 17) (Slots.of (by rfl)) hsz rfl, hV, ?_⟩
          simp only [getD_setF, hl1, l7, l13, l15, hsz]
          exact ⟨by simpa using k1, by simpa using k2, by simpa using c, by rw [hv']; simpa using tn, fun g h1 h2 h3 h4 => (gr.block g (Nat.lt_of_lt_of_le h1 hM.size) (fun e => h2 (by cases e; rfl))).trans (hM.far g h1 h2 h3 h4), hM.below.trans (below_grown gr (fun g e => by cases e; omega) (by omega)), Nat.le_trans hM.size gr.size⟩
      · intro listed b v hJ hr
        obtain ⟨hsz, hC, vals, hF, hV, hM⟩ := hJ
        have hall := all_upB (by rfl) hsz hr
        have hb : b = putAll _ vals _ 18 := hF.done (Slots.of (by rfl)) hall
        rw [hall 6 (by decide), hall 7 (by decide), hall 12 (by decide), hall 13 (by decide), hall 15 (by decide), hall 17 (by decide)] at hM
        obtain ⟨na, nc, hvn⟩ := own_sliceZ (hM.sn.done rfl)
        obtain ⟨ka, kc, hvk⟩ := own_sliceZ (hM.sk.done rfl)
        have hN := H.out.names.lt
        have hK := H.out.kids.lt
        subst hb
        have e1 := hM.sn.done rfl
        have e2 := hM.sk.done rfl
        have e3 := hM.ap
        have e4 := hM.tat
        have e5 := hM.far w1.heap.size hz0 (by omega) (fun e => by have := (hN _ e).1; omega) (fun e => by have := (hK _ e).1; omega)
        have e6 := hM.far (w1.heap.size + 1) hz1 (by omega) (fun e => by have := (hN _ e).1; omega) (fun e => by have := (hK _ e).1; omega)
        have e7 := H.out.below.drew.trans hM.below
        rw [show nmR k ++ [.string ⟨#[letB k]⟩] = nmR (k + 1) by simp [nmR, List.range_succ]] at e1
        rw [show kdR k ++ cI.cells = kdR (k + 1) by simp [kdR, List.replicate_succ', List.flatMap_append]] at e2
        simp only [putAll, hV.v0, hV.v1, hV.v2, hV.v3, hV.v4, hV.v5, hV.v8, hV.v9, hV.v10, hV.v11, hV.v14, hV.v16, hvn, hvk]
        simp [dstOf]
        have E1 := Lib.hid e1; have E2 := Lib.hid e2; have E3 := Lib.hid e3; have E4 := Lib.hid e4; have E5 := Lib.hid e5; have E6 := Lib.hid e6; have E7 := Lib.hid e7
        clear e1 e2 e3 e4 e5 e6 e7 hM hF hV hC hvn hvk hall hr hsz
        go_wp2
        exact ⟨⟨k + 1, _, _, by go_num, by omega, E5.out.trans H.out.sat, E6.out.trans H.out.lat, E4.out, E1.out, E2.out, E3.out, E7.out⟩, by simp [intOf]; omega⟩
    · obtain rfl : k = 7 + m := by omega
      have hi := bnd3_is hm4
      obtain ⟨W2, hW2⟩ : ∃ W2, W2 = put4 wr w1.heap.size ⟨7, ⟨#[]⟩, xa, 7 + m, xc, ya, 7 + m, yc⟩ := ⟨_, rfl⟩
      have hO := put4_only wr w1.heap.size ⟨7, ⟨#[]⟩, xa, 7 + m, xc, ya, 7 + m, yc⟩
      rw [← hW2] at hO
      have hnm := h.names.kept hO (.inr (fun e => by have := (h.names.lt _ e).1; omega))
      have hkd := h.kids.kept hO (.inr (fun e => by have := (h.kids.lt _ e).1; omega))
      have hB2 : Below w.heap.size w W2 := h.below.trans (hO.below hx1 h.below.size)
      obtain ⟨xa', xc', ex, hx⟩ := RowV.own (S := Any W2) (l := ((List.range (7 + m)).map fun i => [letB i]).map fun n => [str n]) (by
        have e : (((List.range (7 + m)).map fun i => [letB i]).map fun n => [str n]).flatten = nmR (7 + m) := by
          rw [List.map_map]; unfold nmR
          generalize List.range (7 + m) = l
          induction l with
          | nil => rfl
          | cons a l ih => simp only [List.map_cons, List.flatten_cons, ih]; rfl
        rw [e]; exact hnm) (str1_len _) (by simp) (fun g hg => (hnm.lt g hg).2)
      cases ex
      obtain ⟨ya', yc', ey, hy⟩ := RowV.own (S := Any W2) (l := (List.replicate (7 + m) cI).map C4.cells) hkd (cells4_len _) (by simp) (fun g hg => (hkd.lt g hg).2)
      cases ey
      have hT : TzV W2 (Any W2) (.mk 7 [] ((List.range (7 + m)).map fun i => [letB i]) (List.replicate (7 + m) zI)) ⟨7, ⟨#[]⟩, xa, ((List.range (7 + m)).map fun i => [letB i]).length, xc, ya, (List.replicate (7 + m) zI).length, yc⟩ :=
        .mk 7 [] _ _ xa xc ya yc (List.replicate (7 + m) cI) (by simp) hx hy (fun i h1 h2 => by simp only [List.getElem_replicate]; exact TzV.leaf _ _ 2 [])
      rw [List.length_map, List.length_range, List.length_replicate] at hT
      have C1 : Calls Try.prog 17 #[.agg #[.int .i64 7, .string ⟨#[]⟩, .slice xa (7 + m) xc, .slice ya (7 + m) yc, .slice none 0 0, .slice none 0 0]] W2 (fun e w' => e = .returned (.int .i64 (if m ≤ 1 then 0 else 3)) ∧ Below W2.heap.size W2 w') := Check_at (fldS (7 + m)) 0 0 (SzV.build hT (NmsV.nil none) (SgsV.nil none)) rfl hi.1 rfl hi.2
      have HC1 := Lib.hid C1; have HB := Lib.hid hB2; have HW2 := Lib.hid hW2
      clear C1 h hi hnm hkd hB2 hW2 hO hx hy hT
      go_wp2_with fail
      refine (HW2.out ▸ HC1.out).mono ?_
      rintro e w3 ⟨rfl, x3⟩
      have HX3 := Lib.hid (HW2.out ▸ x3 : Below W2.heap.size W2 w3); clear x3
      obtain rfl | rfl | rfl | rfl : m = 0 ∨ m = 1 ∨ m = 2 ∨ m = 3 := by omega
      all_goals
        go_wp2
        go_ret
        exact ⟨rfl, HB.out.trans (HX3.out.mono HB.out.size)⟩
end Sp
end Go.Proofs.Ytnnnjonodnkccaa
