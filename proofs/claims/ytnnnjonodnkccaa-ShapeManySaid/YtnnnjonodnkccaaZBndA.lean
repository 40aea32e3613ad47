/- ShapeBounds' walk: named types. -/
import Derived.Test.YtnnnjonodnkccaaZGather
import Derived.Test.YtnnnjonodnkccaaDrawF
namespace Go.Proofs.Ytnnnjonodnkccaa
open Go.RowKit
namespace Sp
open Sc

def letB (k : Nat) : UInt8 := UInt8.ofNat (97 + k)
def letO : Obj := .cells #[.string ⟨#[97]⟩, .string ⟨#[98]⟩, .string ⟨#[99]⟩, .string ⟨#[100]⟩, .string ⟨#[101]⟩, .string ⟨#[102]⟩, .string ⟨#[103]⟩, .string ⟨#[104]⟩, .string ⟨#[105]⟩, .string ⟨#[106]⟩, .string ⟨#[107]⟩, .string ⟨#[108]⟩, .string ⟨#[109]⟩, .string ⟨#[110]⟩, .string ⟨#[111]⟩, .string ⟨#[112]⟩] 9
theorem let_at {w : World} {b : Nat} (h : w.heap[b]? = some letO) (k : Nat) (hk : k < 16) : w.cell? ⟨b, k, none⟩ = some (.string ⟨#[letB k]⟩) := by
  unfold letO at h
  simp only [World.cell?, h]
  have := List.all_eq_true.1 (show (List.range 16).all (fun k => match (#[.string ⟨#[97]⟩, .string ⟨#[98]⟩, .string ⟨#[99]⟩, .string ⟨#[100]⟩, .string ⟨#[101]⟩, .string ⟨#[102]⟩, .string ⟨#[103]⟩, .string ⟨#[104]⟩, .string ⟨#[105]⟩, .string ⟨#[106]⟩, .string ⟨#[107]⟩, .string ⟨#[108]⟩, .string ⟨#[109]⟩, .string ⟨#[110]⟩, .string ⟨#[111]⟩, .string ⟨#[112]⟩] : Array Value)[k]? with | some (.string s) => decide (s.data.toList = [letB k]) | _ => false) = true by decide +kernel) k (List.mem_range.2 hk)
  revert this
  split
  · next s hs => intro h; simp only [decide_eq_true_eq] at h; rw [hs, ← h]; rfl
  · intro h; cases h
def namL (k : Nat) : List NT := (List.range k).map fun i => ([letB i], zI)
/-- What the operations of the statement yield. -/
structure BV (sb lb k : Nat) (xv : Value) (vals : Nat → Value) : Prop where
  v0 : vals 0 = .pointer (some ⟨sb, 4, none⟩)
  v1 : vals 1 = xv
  v2 : vals 2 = .slice (some ⟨lb, 0, none⟩) 16 16
  v3 : vals 3 = .int .i64 k
  v4 : vals 4 = .pointer (some ⟨lb, k, none⟩)
  v5 : vals 5 = .string ⟨#[letB k]⟩
  v6 : vals 6 = .pointer (some ⟨sb, 0, none⟩)
  v7 : vals 7 = .agg #[.int .i64 2, .string ⟨#[]⟩, .slice none 0 0, .slice none 0 0]
  v8 : vals 8 = .agg #[.string ⟨#[letB k]⟩, .int .i64 2, .string ⟨#[]⟩, .slice none 0 0, .slice none 0 0]
  v11 : vals 11 = .pointer (some ⟨sb, 4, none⟩)
def namO (k : Nat) : Obj := .cells #[.string ⟨#[letB k]⟩, .int .i64 2, .string ⟨#[]⟩, .slice none 0 0, .slice none 0 0] 44
/-- What the append leaves. -/
structure BP (W0 : World) (base k : Nat) (xv : Value) (us : List (List UInt8 × C4)) (v : World) (v' : Value) : Prop where
  own : v.ownsRow base 44 5 v' (us.length + 1) (us.flatMap encZ ++ encZ ([letB k], cI))
  grown : (W0.alloc (namO k)).grownBy v xv.ownBlock
  fresh : ∀ g, v'.ownBlock = some g → xv.ownBlock = some g ∨ (W0.alloc (namO k)).heap.size ≤ g
def BM (W0 : World) (sb base k : Nat) (xv : Value) (us : List (List UInt8 × C4)) (vals : Nat → Value) (v : World) : Bool → Bool → Bool → Prop
  | false, false, false => v = W0
  | true, false, false => v = W0.alloc (namO k) ∧ vals 9 = .slice (some ⟨W0.heap.size, 0, none⟩) 1 1
  | true, true, false => BP W0 base k xv us v (vals 10)
  | true, true, true => ∃ w3, BP W0 base k xv us w3 (vals 10) ∧ v = w3.setCell ⟨sb, 4, none⟩ (vals 10)
  | _, _, _ => False
structure BJ (W0 : World) (sb lb base k : Nat) (xv : Value) (us : List (List UInt8 × C4)) (ops : Array Oper) (a0 : Act) (listed : Array Bool) (b : Act) (v : World) : Prop where
  size : listed.size = ops.size
  late : listed.getD 12 false = true → ∀ i, i < 12 → listed.getD i false = true
  rest : ∃ vals : Nat → Value, Fr ops a0 vals listed b ∧ BV sb lb k xv vals ∧ BM W0 sb base k xv us vals v (listed.getD 9 false) (listed.getD 10 false) (listed.getD 12 false)
theorem BM.far {W0 v : World} {sb base k : Nat} {xv : Value} {us : List (List UInt8 × C4)} {vals : Nat → Value} {b9 b10 b12 : Bool} (h : BM W0 sb base k xv us vals v b9 b10 b12) {g : Nat} (hg : g < W0.heap.size) (hx : xv.ownBlock ≠ some g) (hn : g ≠ sb ∨ b12 = false) : v.heap[g]? = W0.heap[g]? := by
  have gr : ∀ {w3 : World} {v' : Value}, BP W0 base k xv us w3 v' → w3.heap[g]? = W0.heap[g]? := fun hp => (hp.grown.block g (by simp; omega) (fun e => hx e.symm)).trans (Below.heap_alloc _ _ _ hg)
  match b9, b10, b12, h with
  | false, false, false, h => rw [show v = W0 from h]
  | true, false, false, h => rw [show v = _ from h.1]; exact Below.heap_alloc _ _ _ hg
  | true, true, false, h => exact gr h
  | true, true, true, ⟨w3, hp, e⟩ =>
    rcases hn with hn | hn
    · rw [e, ← gr hp]
      exact ((Only.refl sb w3).setCell 4 _).block g (Nat.lt_of_lt_of_le (by simp; omega) hp.grown.size) (fun e => hn (by cases e; rfl))
    · cases hn
/-- An operation that only reads. -/
theorem BJ.quiet {W0 : World} {sb lb base k : Nat} {xv : Value} {us : List (List UInt8 × C4)} {ops : Array Oper} {a0 b : Act} {listed : Array Bool} {v : World} {i : Nat} {o : Oper} {vals : Nat → Value} {Q : Exit → Act → World → Prop} (hz : listed.size = ops.size) (hL : listed.getD 12 false = false) (hF : Fr ops a0 vals listed b) (hV : BV sb lb k xv vals) (hM : BM W0 sb base k xv us vals v (listed.getD 9 false) (listed.getD 10 false) (listed.getD 12 false))
    (hs : Slots ops a0.tmps.size) (ho : ops[i]? = some o) (hg : o.guard = none) (h9 : i ≠ 9 ∧ i ≠ 10 ∧ i ≠ 12) (hr : (execOp b.eval o).run Try.prog v = .ok (.value (vals i)) v) :
    wpOp Try.prog ops Q i (fun b' v' => BJ W0 sb lb base k xv us ops a0 (listed.setIfInBounds i true) b' v') b v := by
  refine wpOp_run ho hg hr ⟨by simp [hz], fun h => ?_, vals, hF.put hs hz ho, hV, ?_⟩
  · rw [getD_setF, hL] at h; simp [h9.2.2] at h
  · rw [getD_setF, getD_setF, getD_setF]
    simpa [h9.1, h9.2.1, h9.2.2] using hM

theorem bnd0_all : (List.range 4).all (fun m => fitS ⟨zI, namL (11 + m), []⟩ && decide ((checkZ ⟨zI, namL (11 + m), []⟩).map Int.ofNat = some (if m ≤ 1 then 0 else 3))) = true := by kernel_rfl
theorem bnd0_is {m : Nat} (h : m < 4) : fitS ⟨zI, namL (11 + m), []⟩ = true ∧ (checkZ ⟨zI, namL (11 + m), []⟩).map Int.ofNat = some (if m ≤ 1 then 0 else 3) := by
  have := List.all_eq_true.1 bnd0_all m (List.mem_range.2 h)
  simpa only [Bool.and_eq_true, decide_eq_true_eq] using this
structure BRel0 (w0 : World) (sb m : Nat) (sv : Value) (wr : World) (k : Nat) (v : Value) (us : List (List UInt8 × C4)) : Prop where
  slot : sv = .int .i64 k
  le : k ≤ 11 + m
  sat : wr.heap[sb]? = some (.cells #[.int .i64 2, .string ⟨#[]⟩, .slice none 0 0, .slice none 0 0, v, .slice none 0 0] 29 (0, 0))
  lat : wr.heap[sb + 1]? = some letO
  row : GRow wr (sb + 1 + 1) [sb] v (namL k) us
  below : Below w0.heap.size w0 wr

set_option maxRecDepth 100000 in
set_option maxHeartbeats 8000000 in
theorem ShapeBounds_0 (which n : Int) (w : World) (h1 : -9223372036854775808 ≤ which) (h2 : which ≤ 9223372036854775807) (h3 : -9223372036854775808 ≤ n) (h4 : n ≤ 9223372036854775807) (hq : which % 5 = 0) :
    Calls Try.prog 6 #[.int .i64 which, .int .i64 n] w fun e w' => e = .returned (.bool true) ∧ Below w.heap.size w w' := by
  obtain ⟨m, hm, hm4⟩ : ∃ m : Nat, n % 4 = m ∧ m < 4 := ⟨(n % 4).toNat, by omega, by omega⟩
  have HM := Lib.hid hm; have HQ := Lib.hid hq; clear hm hq
  obtain ⟨i0, hi, hz0, hz1, hz2⟩ := info_parts infoN
  have HI := Lib.hid hi; have HI0 := Lib.hid hz0; have HI1 := Lib.hid hz1; have HI2 := Lib.hid hz2; clear hi hz0 hz1 hz2
  go_enter Try.func6, Try.ntmps6
  go_wp2_with (go_at_call 12; (with_reducible refine (known_any _).mono ?_); rintro e w1 ⟨rfl, x1⟩; have HX1 := Lib.hid x1; clear x1)
  have hx1 := HX1.out.size
  go_wp2_with (first | (go_at_call 19; (with_reducible refine (within_is _ _ _ _ (by omega) (by omega) h3 h4 HM.out).mono ?_); rintro e w2 ⟨rfl, rfl⟩) | (go_at_call 19; (with_reducible refine (within_is _ _ _ _ (by omega) (by omega) h1 h2 HQ.out).mono ?_); rintro e w2 ⟨rfl, rfl⟩))
  go_loopw [8] (fun v wr => ∃ k x us, BRel0 w w1.heap.size m v wr k x us) (fun v _ => 11 + m - (intOf v).toNat)
  case atStart => exact ⟨0, .slice none 0 0, [], rfl, Nat.zero_le _, by rw [blk_if, if_neg (by simp), blk_if, if_pos rfl], by rw [blk_if, if_pos (by simp)]; rfl, GRow.start _ _ _, (HX1.out.alloc hx1 _).alloc (by simp; omega) _⟩
  case round =>
    obtain ⟨k, x, us, h⟩ := hrel
    obtain rfl := h.slot
    have hk := h.le
    obtain ⟨⟨s0, s1, s2, s3, s4, s5⟩, ⟨g0, g1, g2, g3, g4, g5⟩⟩ := six_blkF h.sat
    have hz := (Array.getElem?_eq_some_iff.1 h.lat).1
    have hz0 : w1.heap.size < wr.heap.size := by omega
    have hl := let_at h.lat k
    obtain ⟨xa, xc, rfl⟩ := h.row.cut
    by_cases hlt : k < 11 + m
    · have hl := hl (by omega)
      have hk0 : (0 : Int) ≤ (k : Int) := by omega
      have hk1 : (k : Int) < 16 := by omega
      have H := Lib.hid h; clear h
      go_wp2_with fail
      have hul : us.length = k := by rw [H.out.row.len]; simp [namL]
      have HUL := Lib.hid hul; clear hul
      refine wp_region_by (BJ wr.drew w1.heap.size (w1.heap.size + 1) (w1.heap.size + 1 + 1) k (.slice xa (namL k).length xc) us) (by kernel_rfl) ?_ ?_ ?_
      · exact ⟨by simp, fun h => by simp at h, fun i => match i with
          | 0 => .pointer (some ⟨w1.heap.size, 4, none⟩)
          | 1 => .slice xa (namL k).length xc
          | 2 => .slice (some ⟨w1.heap.size + 1, 0, none⟩) 16 16
          | 3 => .int .i64 k
          | 4 => .pointer (some ⟨w1.heap.size + 1, k, none⟩)
          | 5 => .string ⟨#[letB k]⟩
          | 6 => .pointer (some ⟨w1.heap.size, 0, none⟩)
          | 7 => .agg #[.int .i64 2, .string ⟨#[]⟩, .slice none 0 0, .slice none 0 0]
          | 8 => .agg #[.string ⟨#[letB k]⟩, .int .i64 2, .string ⟨#[]⟩, .slice none 0 0, .slice none 0 0]
          | 11 => .pointer (some ⟨w1.heap.size, 4, none⟩)
          | _ => undef, Fr.start _ _ _, ⟨rfl, rfl, rfl, rfl, rfl, rfl, rfl, rfl, rfl, rfl⟩, rfl⟩
      · intro listed b v i hJ hi
        obtain ⟨hsz, hlate, vals, hF, hV, hM⟩ := hJ
        obtain ⟨hl0, o, ho, hdeps⟩ := mem_ready.1 hi
        have hi13 : i < 13 := by have := (Array.getElem?_eq_some_iff.1 ho).1; simpa using this
        have hl1 : listed.getD i false = false := by
          cases hh : listed.getD i false
          · rfl
          · rw [Array.getD_eq_getD_getElem?, Array.getElem?_eq_getElem (by rw [hsz]; exact hi13)] at hh hl0
            simp at hh hl0
            rw [hh] at hl0; cases hl0
        have hL : i ≠ 12 → listed.getD 12 false = false := fun hne => by
          cases hh : listed.getD 12 false
          · rfl
          · have := hlate hh i (by omega)
            rw [hl1] at this; cases this
        have hsame : i ≠ 12 → v.heap[w1.heap.size]? = wr.heap[w1.heap.size]? := fun hne => hM.far (g := w1.heap.size) hz0 (H.out.row.ne (by omega)) (.inr (hL hne))
        have hfar : v.heap[w1.heap.size + 1]? = wr.heap[w1.heap.size + 1]? := hM.far (g := w1.heap.size + 1) hz (H.out.row.ne (by omega)) (.inl (by omega))
        have yl := let_at (hfar.trans H.out.lat) k (by omega)
        obtain rfl | rfl | rfl | rfl | rfl | rfl | rfl | rfl | rfl | rfl | rfl | rfl | rfl : i = 0 ∨ i = 1 ∨ i = 2 ∨ i = 3 ∨ i = 4 ∨ i = 5 ∨ i = 6 ∨ i = 7 ∨ i = 8 ∨ i = 11 ∨ i = 9 ∨ i = 10 ∨ i = 12 := by omega
        · cases ho
          obtain ⟨⟨y0, y1, y2, y3, y4, y5⟩, _⟩ := six_blkF ((hsame (by decide)).trans H.out.sat)
          have e := hF.old_is 5 (by rfl) rfl
          refine BJ.quiet hsz (hL (by decide)) hF hV hM (Slots.of (by rfl)) rfl rfl (by decide) ?_
          rw [hV.v0]
          simp [execOp, go_sem, e]
        · cases ho
          obtain ⟨⟨y0, y1, y2, y3, y4, y5⟩, _⟩ := six_blkF ((hsame (by decide)).trans H.out.sat)
          have e := hF.up 0 34 rfl (hdeps ⟨0, .data⟩ (by simp) rfl)
          rw [hV.v0] at e
          refine BJ.quiet hsz (hL (by decide)) hF hV hM (Slots.of (by rfl)) rfl rfl (by decide) ?_
          rw [hV.v1]
          simp [execOp, go_sem, e, y4]
        · cases ho
          obtain ⟨⟨y0, y1, y2, y3, y4, y5⟩, _⟩ := six_blkF ((hsame (by decide)).trans H.out.sat)
          have e := hF.old_is 7 (by rfl) rfl
          refine BJ.quiet hsz (hL (by decide)) hF hV hM (Slots.of (by rfl)) rfl rfl (by decide) ?_
          rw [hV.v2]
          simp [execOp, go_sem, e]
        · cases ho
          obtain ⟨⟨y0, y1, y2, y3, y4, y5⟩, _⟩ := six_blkF ((hsame (by decide)).trans H.out.sat)
          have e := hF.old_is 8 (by rfl) rfl
          refine BJ.quiet hsz (hL (by decide)) hF hV hM (Slots.of (by rfl)) rfl rfl (by decide) ?_
          rw [hV.v3]
          simp [execOp, go_sem, e]
        · cases ho
          obtain ⟨⟨y0, y1, y2, y3, y4, y5⟩, _⟩ := six_blkF ((hsame (by decide)).trans H.out.sat)
          have e := hF.up 2 36 rfl (hdeps ⟨2, .data⟩ (by simp) rfl)
          have f := hF.up 3 37 rfl (hdeps ⟨3, .data⟩ (by simp) rfl)
          rw [hV.v2] at e
          rw [hV.v3] at f
          refine BJ.quiet hsz (hL (by decide)) hF hV hM (Slots.of (by rfl)) rfl rfl (by decide) ?_
          rw [hV.v4]
          simp [execOp, go_sem, e, f, hk0, hk1]
        · cases ho
          obtain ⟨⟨y0, y1, y2, y3, y4, y5⟩, _⟩ := six_blkF ((hsame (by decide)).trans H.out.sat)
          have e := hF.up 4 38 rfl (hdeps ⟨4, .data⟩ (by simp) rfl)
          rw [hV.v4] at e
          refine BJ.quiet hsz (hL (by decide)) hF hV hM (Slots.of (by rfl)) rfl rfl (by decide) ?_
          rw [hV.v5]
          simp [execOp, go_sem, e, yl]
        · cases ho
          obtain ⟨⟨y0, y1, y2, y3, y4, y5⟩, _⟩ := six_blkF ((hsame (by decide)).trans H.out.sat)
          have e := hF.old_is 5 (by rfl) rfl
          refine BJ.quiet hsz (hL (by decide)) hF hV hM (Slots.of (by rfl)) rfl rfl (by decide) ?_
          rw [hV.v6]
          simp [execOp, go_sem, e]
        · cases ho
          obtain ⟨⟨y0, y1, y2, y3, y4, y5⟩, _⟩ := six_blkF ((hsame (by decide)).trans H.out.sat)
          have e := hF.up 6 40 rfl (hdeps ⟨6, .data⟩ (by simp) rfl)
          rw [hV.v6] at e
          refine BJ.quiet hsz (hL (by decide)) hF hV hM (Slots.of (by rfl)) rfl rfl (by decide) ?_
          rw [hV.v7]
          simp [execOp, go_sem, e, y0, y1, y2, y3]
        · cases ho
          obtain ⟨⟨y0, y1, y2, y3, y4, y5⟩, _⟩ := six_blkF ((hsame (by decide)).trans H.out.sat)
          have e := hF.up 5 39 rfl (hdeps ⟨5, .data⟩ (by simp) rfl)
          have f := hF.up 7 41 rfl (hdeps ⟨7, .data⟩ (by simp) rfl)
          rw [hV.v5] at e
          rw [hV.v7] at f
          refine BJ.quiet hsz (hL (by decide)) hF hV hM (Slots.of (by rfl)) rfl rfl (by decide) ?_
          rw [hV.v8]
          simp [execOp, go_sem, e, f]
        · cases ho
          obtain ⟨⟨y0, y1, y2, y3, y4, y5⟩, _⟩ := six_blkF ((hsame (by decide)).trans H.out.sat)
          have e := hF.old_is 5 (by rfl) rfl
          refine BJ.quiet hsz (hL (by decide)) hF hV hM (Slots.of (by rfl)) rfl rfl (by decide) ?_
          rw [hV.v11]
          simp [execOp, go_sem, e]
        · cases ho
          have l12 := hL (by decide)
          have hv : v = wr.drew ∧ listed.getD 10 false = false := by
            rw [hl1, l12] at hM
            cases h10 : listed.getD 10 false with
            | false => rw [h10] at hM; exact ⟨hM, rfl⟩
            | true => rw [h10] at hM; exact hM.elim
          obtain ⟨rfl, l10⟩ := hv
          have e := hF.up 8 42 rfl (hdeps ⟨8, .data⟩ (by simp) rfl)
          rw [hV.v8] at e
          obtain ⟨vals', hvals⟩ : ∃ vals' : Nat → Value, vals' = fun j => if j = 9 then .slice (some ⟨wr.heap.size, 0, none⟩) 1 1 else vals j := ⟨_, rfl⟩
          have hF' : Fr _ _ vals' listed b := hF.congr (fun i h => by rw [hvals]; exact if_neg (by rintro rfl; rw [hl1] at h; cases h))
          have hV' : BV w1.heap.size (w1.heap.size + 1) k (.slice xa (namL k).length xc) vals' := by rw [hvals]; exact ⟨hV.v0, hV.v1, hV.v2, hV.v3, hV.v4, hV.v5, hV.v6, hV.v7, hV.v8, hV.v11⟩
          have h9 : vals' 9 = .slice (some ⟨wr.heap.size, 0, none⟩) 1 1 := by rw [hvals]; rfl
          refine wpOp_run (w' := wr.drew.alloc (namO k)) (v := vals' 9) rfl rfl ?_ ⟨by simpa using hsz, fun h => ?_, vals', hF'.put (Slots.of (by rfl)) hsz rfl, hV', ?_⟩
          · rw [h9]
            simp [execOp, go_sem, e, namO]
          · rw [getD_setF, l12] at h; simp at h
          · rw [getD_setF, getD_setF, getD_setF, hl1, l10, l12]
            simp only [hsz]
            exact ⟨rfl, h9⟩
        · cases ho
          have l12 := hL (by decide)
          have l9 := hdeps ⟨9, .data⟩ (by simp) rfl
          have l1 := hdeps ⟨1, .data⟩ (by simp) rfl
          rw [l9, hl1, l12] at hM
          obtain ⟨rfl, h9⟩ := hM
          refine wpOp_wp rfl rfl (Sh.wp_append_fresh (.tmp 35) (.tmp 43) 26 rfl (w1.heap.size + 1 + 1) 44 i0 (.agg #[.string ⟨#[]⟩, .int .i64 0, .string ⟨#[]⟩, .slice none 0 0, .slice none 0 0]) 5 88 Try.underlying26 HI.out HI0.out HI1.out HI2.out rfl (by decide) (.slice xa (namL k).length xc) us.length (us.flatMap encZ) ((hF.eval (i := 1) rfl l1).trans hV.v1) ((H.out.row.below (Below.drew (Below.refl _ _))).alloc (namO k)).own ⟨wr.heap.size, 0, none⟩ 1 1 (encZ ([letB k], cI)) ((hF.eval (i := 9) rfl l9).trans h9) rfl (cells_newZ wr.drew (encZ ([letB k], cI)) 44) (one5 (n := [letB k])) (by have := HUL.out; unfold maxLen; omega) (by have := HUL.out; omega) (by simp; omega) ?_)
          intro v' w3 hown hgr hfr
          obtain ⟨vals', hvals⟩ : ∃ vals' : Nat → Value, vals' = fun j => if j = 10 then v' else vals j := ⟨_, rfl⟩
          have hF' : Fr _ _ vals' listed b := hF.congr (fun i h => by rw [hvals]; exact if_neg (by rintro rfl; rw [hl1] at h; cases h))
          have hV' : BV w1.heap.size (w1.heap.size + 1) k (.slice xa (namL k).length xc) vals' := by rw [hvals]; exact ⟨hV.v0, hV.v1, hV.v2, hV.v3, hV.v4, hV.v5, hV.v6, hV.v7, hV.v8, hV.v11⟩
          have h10 : vals' 10 = v' := by rw [hvals]; rfl
          refine ⟨by simpa using hsz, fun h => ?_, vals', h10 ▸ hF'.put (Slots.of (by rfl)) hsz rfl, hV', ?_⟩
          · rw [getD_setF, l12] at h; simp at h
          · rw [getD_setF, getD_setF, getD_setF, l9, l12, hl1]
            simp only [hsz]
            exact ⟨h10 ▸ hown, hgr, h10 ▸ hfr⟩
        · cases ho
          have hall : ∀ i, i < 12 → listed.getD i false = true := fun i hi => by
            obtain rfl | rfl | rfl | rfl | rfl | rfl | rfl | rfl | rfl | rfl | rfl | rfl : i = 0 ∨ i = 1 ∨ i = 2 ∨ i = 3 ∨ i = 4 ∨ i = 5 ∨ i = 6 ∨ i = 7 ∨ i = 8 ∨ i = 9 ∨ i = 10 ∨ i = 11 := by omega
            · exact hdeps ⟨0, .phase⟩ (by simp) rfl
            · exact hdeps ⟨1, .phase⟩ (by simp) rfl
            · exact hdeps ⟨2, .phase⟩ (by simp) rfl
            · exact hdeps ⟨3, .phase⟩ (by simp) rfl
            · exact hdeps ⟨4, .phase⟩ (by simp) rfl
            · exact hdeps ⟨5, .phase⟩ (by simp) rfl
            · exact hdeps ⟨6, .phase⟩ (by simp) rfl
            · exact hdeps ⟨7, .phase⟩ (by simp) rfl
            · exact hdeps ⟨8, .phase⟩ (by simp) rfl
            · exact hdeps ⟨9, .phase⟩ (by simp) rfl
            · exact hdeps ⟨10, .phase⟩ (by simp) rfl
            · exact hdeps ⟨11, .data⟩ (by simp) rfl
          rw [hall 9 (by decide), hall 10 (by decide), hl1] at hM
          have hp : BP wr.drew (w1.heap.size + 1 + 1) k (.slice xa (namL k).length xc) us v (vals 10) := hM
          have hsb : v.heap[w1.heap.size]? = wr.heap[w1.heap.size]? := BM.far (b9 := true) (b10 := true) (b12 := false) (sb := w1.heap.size) (vals := vals) hp (g := w1.heap.size) hz0 (H.out.row.ne (by omega)) (.inr rfl)
          obtain ⟨⟨y0, y1, y2, y3, y4, y5⟩, ⟨z0, z1, z2, z3, z4, z5⟩⟩ := six_blkF (hsb.trans H.out.sat)
          obtain ⟨va, vc, hv'⟩ := own_sliceZ hp.own
          have e := hF.up 11 45 rfl (hall 11 (by decide))
          have f := hF.up 10 44 rfl (hall 10 (by decide))
          rw [hV.v11] at e
          rw [hv'] at f
          refine wpOp_wp rfl rfl ?_
          unfold Oper.wp Oper.upon
          simp [execOp, go_sem, e, f, y4, z4]
          refine ⟨by simpa using hsz, fun _ i hi => by rw [getD_setF, hall i hi]; rfl, vals, hF.put (i := 12) (Slots.of (by rfl)) hsz rfl, hV, ?_⟩
          rw [getD_setF, getD_setF, getD_setF, hall 9 (by decide), hall 10 (by decide), hl1]
          simp only [hsz]
          exact ⟨v, hp, by rw [hv']⟩
      · intro listed b v hJ hr
        obtain ⟨hsz, _, vals, hF, hV, hM⟩ := hJ
        have hall := all_upB (by rfl) hsz hr
        have hb : b = putAll _ vals _ 13 := hF.done (Slots.of (by rfl)) hall
        rw [hall 9 (by decide), hall 10 (by decide), hall 12 (by decide)] at hM
        obtain ⟨w3, hp, rfl⟩ := hM
        obtain ⟨va, vc, hv'⟩ := own_sliceZ hp.own
        subst hb
        simp only [putAll, hV.v0, hV.v1, hV.v2, hV.v3, hV.v4, hV.v5, hV.v6, hV.v7, hV.v8, hV.v11, hv']
        simp [dstOf]
        go_wp2
        have hS3 := (BM.far (b9 := true) (b10 := true) (b12 := false) (sb := w1.heap.size) (vals := vals) hp (g := w1.heap.size) hz0 (H.out.row.ne (by omega)) (.inr rfl)).trans H.out.sat
        have hL3 := (BM.far (b9 := true) (b10 := true) (b12 := false) (sb := w1.heap.size) (vals := vals) hp (g := w1.heap.size + 1) hz (H.out.row.ne (by omega)) (.inr rfl)).trans H.out.lat
        obtain ⟨hg3, _⟩ := GRow.snoc (o := namO k) (n := [letB k]) (t := zI) (c := cI) (H.out.row.below (Below.drew (Below.refl _ _))) (TzV.leaf _ _ 2 []) hp.own hp.grown hp.fresh
        rw [hv'] at hg3
        have hO : Only w1.heap.size w3 (w3.setCell ⟨w1.heap.size, 4, none⟩ (.slice va (us.length + 1) vc)) := (Only.refl _ _).setCell _ _
        have e1 := set_six4 hS3 (.slice va (us.length + 1) vc)
        have e2 := hO.blk hL3 (by omega)
        have hb3 : Below w.heap.size w w3 := (((H.out.below.drew).alloc (by have := H.out.below.size; simp; omega) (namO k))).trans (below_grown hp.grown (fun g e => by have := (H.out.row.own.lt g e).1; omega) (by have := H.out.below.size; simp; omega))
        have e4 := hb3.trans (hO.below hx1 hb3.size)
        have e5 := hg3.only (b := w1.heap.size) (by simp) (by simp; omega) hO
        have hn : namL (k + 1) = namL k ++ [([letB k], zI)] := by simp [namL, List.range_succ]
        rw [← hn] at e5
        exact ⟨⟨k + 1, _, _, by go_num, by omega, e1, e2, e5, e4⟩, by simp [intOf]; omega⟩
    · obtain rfl : k = 11 + m := by omega
      have hi := bnd0_is hm4
      have C1 : Calls Try.prog 17 #[.agg #[.int .i64 2, .string ⟨#[]⟩, .slice none 0 0, .slice none 0 0, .slice xa (namL (11 + m)).length xc, .slice none 0 0]] wr (fun e w' => e = .returned (.int .i64 (if m ≤ 1 then 0 else 3)) ∧ Below wr.heap.size wr w') := Check_at ⟨zI, namL (11 + m), []⟩ xc 0 (SzV.build (TzV.leaf _ _ 2 []) h.row.nms (SgsV.nil none)) rfl hi.1 (by rw [show (namL (11 + m)).length = 11 + m by simp [namL]]; simp; omega) hi.2
      have HC1 := Lib.hid C1; have HB := Lib.hid h.below
      clear C1 h hi hl
      obtain rfl | rfl | rfl | rfl : m = 0 ∨ m = 1 ∨ m = 2 ∨ m = 3 := by omega
      all_goals
        go_wp2_with (go_at_call 17; (refine HC1.out.mono ?_); rintro e w3 ⟨rfl, x3⟩; have HX3 := Lib.hid x3; clear x3)
        go_ret
        exact ⟨rfl, HB.out.trans (HX3.out.mono HB.out.size)⟩
end Sp
end Go.Proofs.Ytnnnjonodnkccaa
