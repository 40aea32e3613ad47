/- row.kids: whether both types have each of the names, and the pairs of their kids there hold. Written by gen_lkids.py. -/
import Derived.Test.YteooafgdmpbjeabW46
import Derived.Test.YteooafgdmpbjeabW43
namespace Go.Proofs.Yteooafgdmpbjeab
open Go.RowKit
namespace Sp
open Sc
set_option maxRecDepth 100000
/-- What holds answers with so much fuel. -/
def HoldP (f qb ob tb rb nb mb sb m : Nat) (ty nu : Value) (T : List Kz) (N : List NN) : Prop :=
  ∀ (S : List (Nat × Nat)) (a b : Nat) (w : World), RwL w qb ob tb rb nb mb sb m ty nu T N S → a < T.length → b < T.length → PrG T.length S → T.length * T.length < f + S.length →
    Calls Try.prog 31 #[.pointer (some ⟨qb, 0, none⟩), .agg #[.int .i64 (a : Nat), .int .i64 (b : Nat)]] w fun e w' => e = .returned (.bool (holdsL T (openK T N 13) f S a b).1) ∧ PrsV w' ob (holdsL T (openK T N 13) f S a b).2 ∧ Keeps (fun g => g = ob) w w'
theorem int1_at {w : World} {S : Nat → Prop} {a : Option Addr} {ks : List Nat} (h : RowV w S a 1 (ks.map fun (j : Nat) => [Value.int .i64 (j : Nat)])) (j : Nat) (hj : j < ks.length) :
    ∃ g o, a = some ⟨g, o, none⟩ ∧ S g ∧ ∀ W : World, W.heap[g]? = w.heap[g]? → W.cell? ⟨g, o + j, none⟩ = some (.int .i64 (ks[j] : Nat)) := by
  rcases h with h | ⟨g, o, ha, hg, hc⟩
  · rw [List.map_eq_nil_iff] at h; rw [h] at hj; cases hj
  · refine ⟨g, o, ha, hg, fun W hW => ?_⟩
    have := hc j (by simpa using hj) 0 (.int .i64 (ks[j] : Nat)) (by simp)
    rw [Nat.mul_one, Nat.add_zero] at this
    exact (World.cell?_of_block (a := ⟨g, o + j, none⟩) hW).trans this
theorem str1_at {w : World} {S : Nat → Prop} {a : Option Addr} {ns : List (List UInt8)} (h : RowV w S a 1 (ns.map fun n => [str n])) (j : Nat) (hj : j < ns.length) :
    ∃ g o, a = some ⟨g, o, none⟩ ∧ S g ∧ ∀ W : World, W.heap[g]? = w.heap[g]? → W.cell? ⟨g, o + j, none⟩ = some (.string ⟨ns[j].toArray⟩) := by
  rcases h with h | ⟨g, o, ha, hg, hc⟩
  · rw [List.map_eq_nil_iff] at h; rw [h] at hj; cases hj
  · refine ⟨g, o, ha, hg, fun W hW => ?_⟩
    have := hc j (by simpa using hj) 0 (str ns[j]) (by simp)
    rw [Nat.mul_one, Nat.add_zero] at this
    exact (World.cell?_of_block (a := ⟨g, o + j, none⟩) hW).trans this
/-- Blocks of before, but for the map of pairs. -/
def Old (w : World) (ob g : Nat) : Prop := g < w.heap.size ∧ g ≠ ob
theorem RowV.old {w w' : World} {ob : Nat} {a : Option Addr} {l : List (List Value)} (h : RowV w (Old w ob) a 1 l) (hk : Keeps (fun g => g = ob) w w') : RowV w' (Any w') a 1 l :=
  h.keep (fun _ hg => Nat.lt_of_lt_of_le hg.1 hk.size) (fun g hg => hk.block g hg.1 hg.2)
structure KdR (W1 : World) (ob n : Nat) (h : List (Nat × Nat) → Nat → Nat → Bool × List (Nat × Nat)) (x y : Kz) (l : List (List UInt8)) (S : List (Nat × Nat)) (iv : Value) (wr : World) (k : Nat) (Sk : List (Nat × Nat)) : Prop where
  slot : iv = .int .i64 k
  le : k ≤ l.length
  eq : kidsL h x y l S = kidsL h x y (l.drop k) Sk
  g : PrG n Sk
  more : S.length ≤ Sk.length
  prs : PrsV wr ob Sk
  keeps : Keeps (fun g => g = ob) W1 wr
theorem kidsL_drop {h : List (Nat × Nat) → Nat → Nat → Bool × List (Nat × Nat)} {x y : Kz} {l : List (List UInt8)} {k : Nat} (hk : k < l.length) (S : List (Nat × Nat)) :
    kidsL h x y (l.drop k) S = if l[k] ∈ x.names ∧ l[k] ∈ y.names then (if (h S (x.kids.getD (x.names.idxOf l[k]) 0) (y.kids.getD (y.names.idxOf l[k]) 0)).1 then kidsL h x y (l.drop (k + 1)) (h S (x.kids.getD (x.names.idxOf l[k]) 0) (y.kids.getD (y.names.idxOf l[k]) 0)).2 else (false, (h S (x.kids.getD (x.names.idxOf l[k]) 0) (y.kids.getD (y.names.idxOf l[k]) 0)).2)) else (false, S) := by
  rw [List.drop_eq_getElem_cons hk, kidsL]
theorem getD_of {l : List Nat} {i : Nat} (h : i < l.length) : l.getD i 0 = l[i] := by rw [List.getD, List.getElem?_eq_getElem h]; rfl
set_option maxHeartbeats 8000000 in
theorem kids_any (f qb ob tb rb nb mb sb m : Nat) (ty nu : Value) (T : List Kz) (N : List NN) (IH : HoldP f qb ob tb rb nb mb sb m ty nu T N) (hT : TabW T) (hO : OpL T N) (x y : Kz) (l : List (List UInt8)) (S : List (Nat × Nat)) (w : World) (xan yan xak yak la : Option Addr) (xcn ycn xck yck lc : Nat)
    (H : RwL w qb ob tb rb nb mb sb m ty nu T N S) (hS : PrG T.length S) (hf : T.length * T.length < f + S.length)
    (hxn : RowV w (Old w ob) xan 1 (x.names.map fun n => [str n])) (hxk : RowV w (Old w ob) xak 1 (x.kids.map fun (j : Nat) => [Value.int .i64 (j : Nat)]))
    (hyn : RowV w (Old w ob) yan 1 (y.names.map fun n => [str n])) (hyk : RowV w (Old w ob) yak 1 (y.kids.map fun (j : Nat) => [Value.int .i64 (j : Nat)]))
    (hl : RowV w (Old w ob) la 1 (l.map fun n => [str n])) (hx1 : x.names.length = x.kids.length) (hy1 : y.names.length = y.kids.length) (hx8 : x.names.length ≤ 8) (hy8 : y.names.length ≤ 8) (hl8 : l.length ≤ 8)
    (hxlt : ∀ j, x.kids.getD j 0 < T.length) (hylt : ∀ j, y.kids.getD j 0 < T.length) :
    Calls Try.prog 70 #[.pointer (some ⟨qb, 0, none⟩), .agg #[.int .i64 x.kind, .string ⟨x.name.toArray⟩, .slice xan x.names.length xcn, .slice xak x.kids.length xck], .agg #[.int .i64 y.kind, .string ⟨y.name.toArray⟩, .slice yan y.names.length ycn, .slice yak y.kids.length yck], .slice la l.length lc] w
      fun e w' => e = .returned (.bool (kidsL (holdsL T (openK T N 13) f) x y l S).1) ∧ PrsV w' ob (kidsL (holdsL T (openK T N 13) f) x y l S).2 ∧ Keeps (fun g => g = ob) w w' := by
  obtain ⟨W1, hW1⟩ : ∃ W1, W1 = (w.alloc (.cells #[.int .i64 x.kind, .string ⟨x.name.toArray⟩, .slice xan x.names.length xcn, .slice xak x.kids.length xck] 95)).alloc (.cells #[.int .i64 y.kind, .string ⟨y.name.toArray⟩, .slice yan y.names.length ycn, .slice yak y.kids.length yck] 95) := ⟨_, rfl⟩
  have hz1 : W1.heap.size = w.heap.size + 2 := by rw [hW1]; simp
  have hb1 : Below w.heap.size w W1 := by rw [hW1]; exact ((Below.refl _ _).alloc (Nat.le_refl _) _).alloc (by simp) _
  have hxb : W1.heap[w.heap.size]? = some (.cells #[.int .i64 x.kind, .string ⟨x.name.toArray⟩, .slice xan x.names.length xcn, .slice xak x.kids.length xck] 95 (0, 0)) := by rw [hW1, blk_if, if_neg (by simp), blk_if, if_pos rfl]
  have hyb : W1.heap[w.heap.size + 1]? = some (.cells #[.int .i64 y.kind, .string ⟨y.name.toArray⟩, .slice yan y.names.length ycn, .slice yak y.kids.length yck] 95 (0, 0)) := by rw [hW1, blk_if, if_pos (by simp)]
  have hob := H.prs.lt
  have hk1 : Keeps (fun g => g = ob) w W1 := Keeps.of_below hb1
  have hst : StepL T.length (holdsL T (openK T N 13) f) := holdsL_g hT hO.lt f
  have H1 := H.below hb1
  obtain ⟨P, hP⟩ : ∃ P, P = kidsL (holdsL T (openK T N 13) f) x y l S := ⟨_, rfl⟩
  rw [← hP]
  have HW1 := Lib.hid hW1; have HK1 := Lib.hid hk1; have HXB := Lib.hid hxb; have HYB := Lib.hid hyb; have HH := Lib.hid H1; have HST := Lib.hid hst; have HIH := Lib.hid IH; have HP := Lib.hid hP; have HS := Lib.hid hS; have HF := Lib.hid hf
  have HXN := Lib.hid hxn; have HXK := Lib.hid hxk; have HYN := Lib.hid hyn; have HYK := Lib.hid hyk; have HL := Lib.hid hl; have HXLT := Lib.hid hxlt; have HYLT := Lib.hid hylt; have HX1 := Lib.hid hx1; have HY1 := Lib.hid hy1
  clear hW1 hb1 hk1 hxb hyb H1 H hst IH hP hS hf hxn hxk hyn hyk hl hxlt hylt hT hO hx1 hy1
  go_enter Try.func70, Try.ntmps70
  go_upto_region 1 with fail
  rw [← HW1.out]
  clear HW1
  go_wp2
  go_loopw [15] (fun iv wr => ∃ k Sk, KdR W1 ob T.length (holdsL T (openK T N 13) f) x y l S iv wr k Sk) (fun iv _ => l.length - (intOf iv).toNat)
  case atStart => exact ⟨0, S, rfl, Nat.zero_le _, rfl, HS.out, Nat.le_refl _, HH.out.prs, Keeps.refl _ _⟩
  case round =>
    obtain ⟨k, Sk, h⟩ := hrel
    obtain rfl := h.slot
    have hk := h.le
    have hkw := HK1.out.trans h.keeps (fun g e => .inl e)
    have hwr := h.keeps.size
    have Hr := HH.out.step h.keeps h.prs
    by_cases hlt : k < l.length
    · have hkz : (k : Int) < (l.length : Int) := by omega
      obtain ⟨g, o, rfl, hg, hc⟩ := str1_at HL.out k hlt
      have c0 := hc wr (hkw.block g hg.1 hg.2)
      obtain ⟨⟨x0, x1, x2, x3⟩, -⟩ := four_blk ((h.keeps.block w.heap.size (by omega) (by omega)).trans HXB.out)
      obtain ⟨⟨y0, y1, y2, y3⟩, -⟩ := four_blk ((h.keeps.block (w.heap.size + 1) (by omega) (by omega)).trans HYB.out)
      have C1 := sindex_any x.names l[k] xan xcn wr.drew (HXN.out.old hkw.drew) (by unfold maxLen; omega)
      have C2 := sindex_any y.names l[k] yan ycn wr.drew (HYN.out.old hkw.drew) (by unfold maxLen; omega)
      have he := h.eq
      rw [kidsL_drop hlt] at he
      by_cases hx : l[k] ∈ x.names
      · by_cases hy : l[k] ∈ y.names
        · rw [if_pos ⟨hx, hy⟩] at he
          have hi := List.idxOf_lt_length_iff.2 hx
          have hj := List.idxOf_lt_length_iff.2 hy
          have e1 : idxI x.names l[k] = (x.names.idxOf l[k] : Nat) := by rw [idxI, if_pos hx]
          have e2 : idxI y.names l[k] = (y.names.idxOf l[k] : Nat) := by rw [idxI, if_pos hy]
          rw [e1] at C1
          rw [e2] at C2
          generalize x.names.idxOf l[k] = i at *
          generalize y.names.idxOf l[k] = j at *
          have hi2 : i < x.kids.length := by have := HX1.out; omega
          have hj2 : j < y.kids.length := by have := HY1.out; omega
          obtain ⟨gx, ox, rfl, hgx, hcx⟩ := int1_at HXK.out i hi2
          obtain ⟨gy, oy, rfl, hgy, hcy⟩ := int1_at HYK.out j hj2
          have cx := hcx wr (hkw.block gx hgx.1 hgx.2)
          have cy := hcy wr (hkw.block gy hgy.1 hgy.2)
          have hxl := HXLT.out i
          have hyl := HYLT.out j
          rw [getD_of hi2] at he hxl
          rw [getD_of hj2] at he hyl
          generalize x.kids[i] = a at *
          generalize y.kids[j] = b at *
          have CH := fun W (hW : Below wr.heap.size wr W) => HIH.out Sk a b W (Hr.below hW) hxl hyl h.g (by have := HF.out; have := h.more; omega)
          have hgq := HST.out.ok Sk a b h.g hxl hyl
          obtain ⟨⟨q1, q2⟩, hq⟩ : ∃ q, holdsL T (openK T N 13) f Sk a b = q := ⟨_, rfl⟩
          rw [hq] at he CH hgq
          dsimp only at he CH hgq
          have ti : decide ((i : Int) < 0) = false := by simp
          have tj : decide ((j : Int) < 0) = false := by simp
          have hiz : (i : Int) < (x.kids.length : Int) := by omega
          have hjz : (j : Int) < (y.kids.length : Int) := by omega
          have HE := Lib.hid he; have HC1 := Lib.hid C1; have HC2 := Lib.hid C2; have HCH := Lib.hid CH; have HGQ := Lib.hid hgq; have HR := Lib.hid h; have HKW := Lib.hid hkw
          clear he C1 C2 CH hgq h hc hcx hcy hx hy e1 e2 hq hkw Hr
          generalize l[k] = nm at *
          go_upto_region 4 with fail
          go_region_held3 (fun w' => w'.cell? ⟨w.heap.size, 2, none⟩ = some (.slice xan x.names.length xcn) ∧ w'.cell? ⟨w.heap.size + 1, 2, none⟩ = some (.slice yan y.names.length ycn)) (go_keep) (first
            | (go_at_call 86; (with_reducible refine HC1.out.mono ?_); rintro e w1 ⟨rfl, rfl⟩)
            | (go_at_call 86; (with_reducible refine HC2.out.mono ?_); rintro e w1 ⟨rfl, rfl⟩))
          have hgx1 := hgx.1
          have hgx2 := hgx.2
          have hgy1 := hgy.1
          have hgy2 := hgy.2
          cases q1
          · go_upto_region 5 with fail
            go_region_held3 (fun w' => w'.cell? ⟨w.heap.size, 3, none⟩ = some (.slice (some ⟨gx, ox, none⟩) x.kids.length xck) ∧ w'.cell? ⟨w.heap.size + 1, 3, none⟩ = some (.slice (some ⟨gy, oy, none⟩) y.kids.length yck) ∧ w'.cell? ⟨gx, ox + i, none⟩ = some (.int .i64 (a : Nat)) ∧ w'.cell? ⟨gy, oy + j, none⟩ = some (.int .i64 (b : Nat))) (go_keep) (first
              | (go_at_call 31; (refine (HCH.out _ (Below.drew (Below.drew (Below.refl _ _)))).mono ?_); rintro e w1 ⟨rfl, hp, hk⟩; have a1 := (World.cell?_of_block (a := ⟨w.heap.size, 3, none⟩) (hk.block w.heap.size (by show _ < wr.heap.size; omega) (by omega))).trans x3; have a2 := (World.cell?_of_block (a := ⟨w.heap.size + 1, 3, none⟩) (hk.block (w.heap.size + 1) (by show _ < wr.heap.size; omega) (by omega))).trans y3; have a3 := (World.cell?_of_block (a := ⟨gx, ox + i, none⟩) (hk.block gx (by show _ < wr.heap.size; omega) hgx2)).trans cx; have a4 := (World.cell?_of_block (a := ⟨gy, oy + j, none⟩) (hk.block gy (by show _ < wr.heap.size; omega) hgy2)).trans cy; have HP1 := Lib.hid hp; have HK2 := Lib.hid (show Keeps (fun g => g = ob) wr w1 from ⟨hk.os, hk.tape, hk.output, hk.size, hk.block⟩); clear hp hk))
            have he := HE.out
            rw [if_neg (by decide)] at he
            go_wp2
            go_ret
            exact ⟨ret_boolZ (by rw [HP.out, he]), by rw [HP.out, he]; exact HP1.out, HKW.out.trans HK2.out (fun g e => .inl e)⟩
          · go_upto_region 5 with fail
            go_region_held3 (fun w' => w'.cell? ⟨w.heap.size, 3, none⟩ = some (.slice (some ⟨gx, ox, none⟩) x.kids.length xck) ∧ w'.cell? ⟨w.heap.size + 1, 3, none⟩ = some (.slice (some ⟨gy, oy, none⟩) y.kids.length yck) ∧ w'.cell? ⟨gx, ox + i, none⟩ = some (.int .i64 (a : Nat)) ∧ w'.cell? ⟨gy, oy + j, none⟩ = some (.int .i64 (b : Nat))) (go_keep) (first
              | (go_at_call 31; (refine (HCH.out _ (Below.drew (Below.drew (Below.refl _ _)))).mono ?_); rintro e w1 ⟨rfl, hp, hk⟩; have a1 := (World.cell?_of_block (a := ⟨w.heap.size, 3, none⟩) (hk.block w.heap.size (by show _ < wr.heap.size; omega) (by omega))).trans x3; have a2 := (World.cell?_of_block (a := ⟨w.heap.size + 1, 3, none⟩) (hk.block (w.heap.size + 1) (by show _ < wr.heap.size; omega) (by omega))).trans y3; have a3 := (World.cell?_of_block (a := ⟨gx, ox + i, none⟩) (hk.block gx (by show _ < wr.heap.size; omega) hgx2)).trans cx; have a4 := (World.cell?_of_block (a := ⟨gy, oy + j, none⟩) (hk.block gy (by show _ < wr.heap.size; omega) hgy2)).trans cy; have HP1 := Lib.hid hp; have HK2 := Lib.hid (show Keeps (fun g => g = ob) wr w1 from ⟨hk.os, hk.tape, hk.output, hk.size, hk.block⟩); clear hp hk))
            have he := HE.out
            rw [if_pos trivial] at he
            go_wp2
            go_roundw
            case rel => exact ⟨k + 1, q2, by go_num, by omega, he, HGQ.out.1, Nat.le_trans HR.out.more HGQ.out.2, HP1.out, HR.out.keeps.trans HK2.out (fun g e => .inl e)⟩
            case measure => simp [intOf]; omega
        · rw [if_neg (fun e => hy e.2)] at he
          obtain ⟨j, hj, tj⟩ : ∃ j : Int, idxI y.names l[k] = j ∧ j < 0 := ⟨_, rfl, by rw [idxI, if_neg hy]; decide⟩
          have e1 : idxI x.names l[k] = (x.names.idxOf l[k] : Nat) := by rw [idxI, if_pos hx]
          rw [e1] at C1
          rw [hj] at C2
          generalize x.names.idxOf l[k] = i at *
          have ti : decide ((i : Int) < 0) = false := by simp
          have HE := Lib.hid he; have HC1 := Lib.hid C1; have HC2 := Lib.hid C2; have HR := Lib.hid h; have HKW := Lib.hid hkw
          clear he C1 C2 h hc hx hy e1 hj hkw Hr
          generalize l[k] = nm at *
          go_upto_region 4 with fail
          go_region_held3 (fun w' => w'.cell? ⟨w.heap.size, 2, none⟩ = some (.slice xan x.names.length xcn) ∧ w'.cell? ⟨w.heap.size + 1, 2, none⟩ = some (.slice yan y.names.length ycn)) (go_keep) (first
            | (go_at_call 86; (with_reducible refine HC1.out.mono ?_); rintro e w1 ⟨rfl, rfl⟩)
            | (go_at_call 86; (with_reducible refine HC2.out.mono ?_); rintro e w1 ⟨rfl, rfl⟩))
          go_upto_region 5 with fail
          refine wp_region_by (QJ (fun (_ : Unit) qq => match qq with | 0 => .int .i64 (i : Nat) | 1 => .bool false | 2 => .bool false | 3 => .int .i64 j | 4 => .bool true | 5 => .bool true | 6 => .bool true | 7 => undef | 8 => undef | 9 => undef | 10 => undef | 11 => undef | 12 => undef | 13 => undef | 14 => undef | 15 => undef | 16 => undef | 17 => undef | 18 => undef | 19 => undef | 20 => undef | 21 => .bool true | _ => undef) (fun _ _ v => v = wr.drew.drew)) (by kernel_rfl) ?_ ?_ ?_
          · exact ⟨by simp, Closed.start _, (), Fr.start _ _ _, rfl⟩
          · intro listed b v q hJ hi
            obtain ⟨hsz, hC, x, hF, hM⟩ := hJ
            obtain ⟨hl1, hiN⟩ := not_up hsz hi
            obtain ⟨_, o, ho, hdeps⟩ := mem_ready.1 hi
            have hiN : q < 22 := hiN
            obtain rfl | rfl | rfl | rfl | rfl | rfl | rfl | rfl | rfl | rfl | rfl | rfl | rfl | rfl | rfl | rfl | rfl | rfl | rfl | rfl | rfl | rfl : q = 0 ∨ q = 1 ∨ q = 2 ∨ q = 3 ∨ q = 4 ∨ q = 5 ∨ q = 6 ∨ q = 7 ∨ q = 8 ∨ q = 9 ∨ q = 10 ∨ q = 11 ∨ q = 12 ∨ q = 13 ∨ q = 14 ∨ q = 15 ∨ q = 16 ∨ q = 17 ∨ q = 18 ∨ q = 19 ∨ q = 20 ∨ q = 21 := by omega
            · cases ho
              have e11 := hF.old_is 11 (by rfl) rfl
              refine QJ.quiet (x := x) hsz hC hi hF (Slots.of (by rfl)) rfl (wanted_none rfl) hM ?_
              show _ = Result.ok (Next.value (.int .i64 (i : Nat))) v
              simp [execOp, go_sem, e11]
            · cases ho
              have e27 : b.tmps[27]? = some (.int .i64 (i : Nat)) := hF.up 0 27 rfl (hdeps ⟨0, .data⟩ (by simp) rfl)
              refine QJ.quiet (x := x) hsz hC hi hF (Slots.of (by rfl)) rfl (wanted_none rfl) hM ?_
              show _ = Result.ok (Next.value (.bool false)) v
              simp [execOp, go_sem, e27, ti]
            · cases ho
              have e28 : b.tmps[28]? = some (.bool false) := hF.up 1 28 rfl (hdeps ⟨1, .data⟩ (by simp) rfl)
              refine QJ.quiet (x := x) hsz hC hi hF (Slots.of (by rfl)) rfl (wanted_none rfl) hM ?_
              show _ = Result.ok (Next.value (.bool false)) v
              simp [execOp, go_sem, e28]
            · cases ho
              have e12 := hF.old_is 12 (by rfl) rfl
              refine QJ.quiet (x := x) hsz hC hi hF (Slots.of (by rfl)) rfl ((wanted_of rfl rfl (show b.tmps[29]? = some (.bool false) from hF.up 2 29 rfl (hdeps ⟨2, .guard⟩ (by simp) rfl))).trans (by rfl)) hM ?_
              show _ = Result.ok (Next.value (.int .i64 j)) v
              simp [execOp, go_sem, e12]
            · cases ho
              have e30 : b.tmps[30]? = some (.int .i64 j) := hF.up 3 30 rfl (hdeps ⟨3, .data⟩ (by simp) rfl)
              refine QJ.quiet (x := x) hsz hC hi hF (Slots.of (by rfl)) rfl ((wanted_of rfl rfl (show b.tmps[29]? = some (.bool false) from hF.up 2 29 rfl (hdeps ⟨2, .guard⟩ (by simp) rfl))).trans (by rfl)) hM ?_
              show _ = Result.ok (Next.value (.bool true)) v
              simp [execOp, go_sem, e30, tj]
            · cases ho
              have e29 : b.tmps[29]? = some (.bool false) := hF.up 2 29 rfl (hdeps ⟨2, .data⟩ (by simp) rfl)
              have e31 : b.tmps[31]? = some (.bool true) := hF.up 4 31 rfl (hdeps ⟨4, .data⟩ (by simp) rfl)
              refine QJ.quiet (x := x) hsz hC hi hF (Slots.of (by rfl)) rfl (wanted_none rfl) hM ?_
              show _ = Result.ok (Next.value (.bool true)) v
              simp [execOp, go_sem, e29, e31]
            · cases ho
              have e32 : b.tmps[32]? = some (.bool true) := hF.up 5 32 rfl (hdeps ⟨5, .data⟩ (by simp) rfl)
              refine QJ.quiet (x := x) hsz hC hi hF (Slots.of (by rfl)) rfl (wanted_none rfl) hM ?_
              show _ = Result.ok (Next.value (.bool true)) v
              simp [execOp, go_sem, e32]
            · cases ho
              refine QJ.skip (x := x) hsz hC hi hF (Slots.of (by rfl)) rfl ((wanted_of rfl rfl (show b.tmps[33]? = some (.bool true) from hF.up 6 33 rfl (hdeps ⟨6, .guard⟩ (by simp) rfl))).trans (by rfl)) hM rfl
            · cases ho
              refine QJ.skip (x := x) hsz hC hi hF (Slots.of (by rfl)) rfl ((wanted_of rfl rfl (show b.tmps[33]? = some (.bool true) from hF.up 6 33 rfl (hdeps ⟨6, .guard⟩ (by simp) rfl))).trans (by rfl)) hM rfl
            · cases ho
              refine QJ.skip (x := x) hsz hC hi hF (Slots.of (by rfl)) rfl ((wanted_of rfl rfl (show b.tmps[33]? = some (.bool true) from hF.up 6 33 rfl (hdeps ⟨6, .guard⟩ (by simp) rfl))).trans (by rfl)) hM rfl
            · cases ho
              refine QJ.skip (x := x) hsz hC hi hF (Slots.of (by rfl)) rfl ((wanted_of rfl rfl (show b.tmps[33]? = some (.bool true) from hF.up 6 33 rfl (hdeps ⟨6, .guard⟩ (by simp) rfl))).trans (by rfl)) hM rfl
            · cases ho
              refine QJ.skip (x := x) hsz hC hi hF (Slots.of (by rfl)) rfl ((wanted_of rfl rfl (show b.tmps[33]? = some (.bool true) from hF.up 6 33 rfl (hdeps ⟨6, .guard⟩ (by simp) rfl))).trans (by rfl)) hM rfl
            · cases ho
              refine QJ.skip (x := x) hsz hC hi hF (Slots.of (by rfl)) rfl ((wanted_of rfl rfl (show b.tmps[33]? = some (.bool true) from hF.up 6 33 rfl (hdeps ⟨6, .guard⟩ (by simp) rfl))).trans (by rfl)) hM rfl
            · cases ho
              refine QJ.skip (x := x) hsz hC hi hF (Slots.of (by rfl)) rfl ((wanted_of rfl rfl (show b.tmps[33]? = some (.bool true) from hF.up 6 33 rfl (hdeps ⟨6, .guard⟩ (by simp) rfl))).trans (by rfl)) hM rfl
            · cases ho
              refine QJ.skip (x := x) hsz hC hi hF (Slots.of (by rfl)) rfl ((wanted_of rfl rfl (show b.tmps[33]? = some (.bool true) from hF.up 6 33 rfl (hdeps ⟨6, .guard⟩ (by simp) rfl))).trans (by rfl)) hM rfl
            · cases ho
              refine QJ.skip (x := x) hsz hC hi hF (Slots.of (by rfl)) rfl ((wanted_of rfl rfl (show b.tmps[33]? = some (.bool true) from hF.up 6 33 rfl (hdeps ⟨6, .guard⟩ (by simp) rfl))).trans (by rfl)) hM rfl
            · cases ho
              refine QJ.skip (x := x) hsz hC hi hF (Slots.of (by rfl)) rfl ((wanted_of rfl rfl (show b.tmps[33]? = some (.bool true) from hF.up 6 33 rfl (hdeps ⟨6, .guard⟩ (by simp) rfl))).trans (by rfl)) hM rfl
            · cases ho
              refine QJ.skip (x := x) hsz hC hi hF (Slots.of (by rfl)) rfl ((wanted_of rfl rfl (show b.tmps[33]? = some (.bool true) from hF.up 6 33 rfl (hdeps ⟨6, .guard⟩ (by simp) rfl))).trans (by rfl)) hM rfl
            · cases ho
              refine QJ.skip (x := x) hsz hC hi hF (Slots.of (by rfl)) rfl ((wanted_of rfl rfl (show b.tmps[33]? = some (.bool true) from hF.up 6 33 rfl (hdeps ⟨6, .guard⟩ (by simp) rfl))).trans (by rfl)) hM rfl
            · cases ho
              refine QJ.skip (x := x) hsz hC hi hF (Slots.of (by rfl)) rfl ((wanted_of rfl rfl (show b.tmps[33]? = some (.bool true) from hF.up 6 33 rfl (hdeps ⟨6, .guard⟩ (by simp) rfl))).trans (by rfl)) hM rfl
            · cases ho
              refine QJ.skip (x := x) hsz hC hi hF (Slots.of (by rfl)) rfl ((wanted_of rfl rfl (show b.tmps[33]? = some (.bool true) from hF.up 6 33 rfl (hdeps ⟨6, .guard⟩ (by simp) rfl))).trans (by rfl)) hM rfl
            · cases ho
              have e33 : b.tmps[33]? = some (.bool true) := hF.up 6 33 rfl (hdeps ⟨6, .data⟩ (by simp) rfl)
              have e47 : b.tmps[47]? = some (undef) := hF.up 20 47 rfl (hdeps ⟨20, .data⟩ (by simp) rfl)
              refine QJ.quiet (x := x) hsz hC hi hF (Slots.of (by rfl)) rfl (wanted_none rfl) hM ?_
              show _ = Result.ok (Next.value (.bool true)) v
              simp [execOp, go_sem, e33, e47]
          · intro listed b W3 hJ hr
            obtain ⟨hsz, hC, x, hF, hM⟩ := hJ
            have hall := all_upB2 (by rfl) hsz hr
            have hb : b = putAll _ _ _ 22 := hF.done (Slots.of (by rfl)) hall
            subst hb
            subst hM
            simp only [putAll]
            simp [dstOf, Act.put]
            clear hF hC hall hr hsz
            go_wp2
            go_ret
            exact ⟨ret_boolZ (by rw [HP.out, HE.out]), by rw [HP.out, HE.out]; exact HR.out.prs.same rfl, HKW.out.drew.drew⟩
      · rw [if_neg (fun e => hx e.1)] at he
        obtain ⟨i, e1, ti⟩ : ∃ i : Int, idxI x.names l[k] = i ∧ i < 0 := ⟨_, rfl, by rw [idxI, if_neg hx]; decide⟩
        rw [e1] at C1
        obtain ⟨j, hj⟩ : ∃ j, idxI y.names l[k] = j := ⟨_, rfl⟩
        rw [hj] at C2
        have HE := Lib.hid he; have HC1 := Lib.hid C1; have HC2 := Lib.hid C2; have HR := Lib.hid h; have HKW := Lib.hid hkw
        clear he C1 C2 h hc hx hj e1 hkw Hr
        generalize l[k] = nm at *
        go_upto_region 4 with fail
        go_region_held3 (fun w' => w'.cell? ⟨w.heap.size, 2, none⟩ = some (.slice xan x.names.length xcn) ∧ w'.cell? ⟨w.heap.size + 1, 2, none⟩ = some (.slice yan y.names.length ycn)) (go_keep) (first
          | (go_at_call 86; (with_reducible refine HC1.out.mono ?_); rintro e w1 ⟨rfl, rfl⟩)
          | (go_at_call 86; (with_reducible refine HC2.out.mono ?_); rintro e w1 ⟨rfl, rfl⟩))
        go_upto_region 5 with fail
        refine wp_region_by (QJ (fun (_ : Unit) qq => match qq with | 0 => .int .i64 i | 1 => .bool true | 2 => .bool true | 3 => undef | 4 => undef | 5 => .bool true | 6 => .bool true | 7 => undef | 8 => undef | 9 => undef | 10 => undef | 11 => undef | 12 => undef | 13 => undef | 14 => undef | 15 => undef | 16 => undef | 17 => undef | 18 => undef | 19 => undef | 20 => undef | 21 => .bool true | _ => undef) (fun _ _ v => v = wr.drew.drew)) (by kernel_rfl) ?_ ?_ ?_
        · exact ⟨by simp, Closed.start _, (), Fr.start _ _ _, rfl⟩
        · intro listed b v q hJ hi
          obtain ⟨hsz, hC, x, hF, hM⟩ := hJ
          obtain ⟨hl1, hiN⟩ := not_up hsz hi
          obtain ⟨_, o, ho, hdeps⟩ := mem_ready.1 hi
          have hiN : q < 22 := hiN
          obtain rfl | rfl | rfl | rfl | rfl | rfl | rfl | rfl | rfl | rfl | rfl | rfl | rfl | rfl | rfl | rfl | rfl | rfl | rfl | rfl | rfl | rfl : q = 0 ∨ q = 1 ∨ q = 2 ∨ q = 3 ∨ q = 4 ∨ q = 5 ∨ q = 6 ∨ q = 7 ∨ q = 8 ∨ q = 9 ∨ q = 10 ∨ q = 11 ∨ q = 12 ∨ q = 13 ∨ q = 14 ∨ q = 15 ∨ q = 16 ∨ q = 17 ∨ q = 18 ∨ q = 19 ∨ q = 20 ∨ q = 21 := by omega
          · cases ho
            have e11 := hF.old_is 11 (by rfl) rfl
            refine QJ.quiet (x := x) hsz hC hi hF (Slots.of (by rfl)) rfl (wanted_none rfl) hM ?_
            show _ = Result.ok (Next.value (.int .i64 i)) v
            simp [execOp, go_sem, e11]
          · cases ho
            have e27 : b.tmps[27]? = some (.int .i64 i) := hF.up 0 27 rfl (hdeps ⟨0, .data⟩ (by simp) rfl)
            refine QJ.quiet (x := x) hsz hC hi hF (Slots.of (by rfl)) rfl (wanted_none rfl) hM ?_
            show _ = Result.ok (Next.value (.bool true)) v
            simp [execOp, go_sem, e27, ti]
          · cases ho
            have e28 : b.tmps[28]? = some (.bool true) := hF.up 1 28 rfl (hdeps ⟨1, .data⟩ (by simp) rfl)
            refine QJ.quiet (x := x) hsz hC hi hF (Slots.of (by rfl)) rfl (wanted_none rfl) hM ?_
            show _ = Result.ok (Next.value (.bool true)) v
            simp [execOp, go_sem, e28]
          · cases ho
            refine QJ.skip (x := x) hsz hC hi hF (Slots.of (by rfl)) rfl ((wanted_of rfl rfl (show b.tmps[29]? = some (.bool true) from hF.up 2 29 rfl (hdeps ⟨2, .guard⟩ (by simp) rfl))).trans (by rfl)) hM rfl
          · cases ho
            refine QJ.skip (x := x) hsz hC hi hF (Slots.of (by rfl)) rfl ((wanted_of rfl rfl (show b.tmps[29]? = some (.bool true) from hF.up 2 29 rfl (hdeps ⟨2, .guard⟩ (by simp) rfl))).trans (by rfl)) hM rfl
          · cases ho
            have e29 : b.tmps[29]? = some (.bool true) := hF.up 2 29 rfl (hdeps ⟨2, .data⟩ (by simp) rfl)
            have e31 : b.tmps[31]? = some (undef) := hF.up 4 31 rfl (hdeps ⟨4, .data⟩ (by simp) rfl)
            refine QJ.quiet (x := x) hsz hC hi hF (Slots.of (by rfl)) rfl (wanted_none rfl) hM ?_
            show _ = Result.ok (Next.value (.bool true)) v
            simp [execOp, go_sem, e29, e31]
          · cases ho
            have e32 : b.tmps[32]? = some (.bool true) := hF.up 5 32 rfl (hdeps ⟨5, .data⟩ (by simp) rfl)
            refine QJ.quiet (x := x) hsz hC hi hF (Slots.of (by rfl)) rfl (wanted_none rfl) hM ?_
            show _ = Result.ok (Next.value (.bool true)) v
            simp [execOp, go_sem, e32]
          · cases ho
            refine QJ.skip (x := x) hsz hC hi hF (Slots.of (by rfl)) rfl ((wanted_of rfl rfl (show b.tmps[33]? = some (.bool true) from hF.up 6 33 rfl (hdeps ⟨6, .guard⟩ (by simp) rfl))).trans (by rfl)) hM rfl
          · cases ho
            refine QJ.skip (x := x) hsz hC hi hF (Slots.of (by rfl)) rfl ((wanted_of rfl rfl (show b.tmps[33]? = some (.bool true) from hF.up 6 33 rfl (hdeps ⟨6, .guard⟩ (by simp) rfl))).trans (by rfl)) hM rfl
          · cases ho
            refine QJ.skip (x := x) hsz hC hi hF (Slots.of (by rfl)) rfl ((wanted_of rfl rfl (show b.tmps[33]? = some (.bool true) from hF.up 6 33 rfl (hdeps ⟨6, .guard⟩ (by simp) rfl))).trans (by rfl)) hM rfl
          · cases ho
            refine QJ.skip (x := x) hsz hC hi hF (Slots.of (by rfl)) rfl ((wanted_of rfl rfl (show b.tmps[33]? = some (.bool true) from hF.up 6 33 rfl (hdeps ⟨6, .guard⟩ (by simp) rfl))).trans (by rfl)) hM rfl
          · cases ho
            refine QJ.skip (x := x) hsz hC hi hF (Slots.of (by rfl)) rfl ((wanted_of rfl rfl (show b.tmps[33]? = some (.bool true) from hF.up 6 33 rfl (hdeps ⟨6, .guard⟩ (by simp) rfl))).trans (by rfl)) hM rfl
          · cases ho
            refine QJ.skip (x := x) hsz hC hi hF (Slots.of (by rfl)) rfl ((wanted_of rfl rfl (show b.tmps[33]? = some (.bool true) from hF.up 6 33 rfl (hdeps ⟨6, .guard⟩ (by simp) rfl))).trans (by rfl)) hM rfl
          · cases ho
            refine QJ.skip (x := x) hsz hC hi hF (Slots.of (by rfl)) rfl ((wanted_of rfl rfl (show b.tmps[33]? = some (.bool true) from hF.up 6 33 rfl (hdeps ⟨6, .guard⟩ (by simp) rfl))).trans (by rfl)) hM rfl
          · cases ho
            refine QJ.skip (x := x) hsz hC hi hF (Slots.of (by rfl)) rfl ((wanted_of rfl rfl (show b.tmps[33]? = some (.bool true) from hF.up 6 33 rfl (hdeps ⟨6, .guard⟩ (by simp) rfl))).trans (by rfl)) hM rfl
          · cases ho
            refine QJ.skip (x := x) hsz hC hi hF (Slots.of (by rfl)) rfl ((wanted_of rfl rfl (show b.tmps[33]? = some (.bool true) from hF.up 6 33 rfl (hdeps ⟨6, .guard⟩ (by simp) rfl))).trans (by rfl)) hM rfl
          · cases ho
            refine QJ.skip (x := x) hsz hC hi hF (Slots.of (by rfl)) rfl ((wanted_of rfl rfl (show b.tmps[33]? = some (.bool true) from hF.up 6 33 rfl (hdeps ⟨6, .guard⟩ (by simp) rfl))).trans (by rfl)) hM rfl
          · cases ho
            refine QJ.skip (x := x) hsz hC hi hF (Slots.of (by rfl)) rfl ((wanted_of rfl rfl (show b.tmps[33]? = some (.bool true) from hF.up 6 33 rfl (hdeps ⟨6, .guard⟩ (by simp) rfl))).trans (by rfl)) hM rfl
          · cases ho
            refine QJ.skip (x := x) hsz hC hi hF (Slots.of (by rfl)) rfl ((wanted_of rfl rfl (show b.tmps[33]? = some (.bool true) from hF.up 6 33 rfl (hdeps ⟨6, .guard⟩ (by simp) rfl))).trans (by rfl)) hM rfl
          · cases ho
            refine QJ.skip (x := x) hsz hC hi hF (Slots.of (by rfl)) rfl ((wanted_of rfl rfl (show b.tmps[33]? = some (.bool true) from hF.up 6 33 rfl (hdeps ⟨6, .guard⟩ (by simp) rfl))).trans (by rfl)) hM rfl
          · cases ho
            refine QJ.skip (x := x) hsz hC hi hF (Slots.of (by rfl)) rfl ((wanted_of rfl rfl (show b.tmps[33]? = some (.bool true) from hF.up 6 33 rfl (hdeps ⟨6, .guard⟩ (by simp) rfl))).trans (by rfl)) hM rfl
          · cases ho
            have e33 : b.tmps[33]? = some (.bool true) := hF.up 6 33 rfl (hdeps ⟨6, .data⟩ (by simp) rfl)
            have e47 : b.tmps[47]? = some (undef) := hF.up 20 47 rfl (hdeps ⟨20, .data⟩ (by simp) rfl)
            refine QJ.quiet (x := x) hsz hC hi hF (Slots.of (by rfl)) rfl (wanted_none rfl) hM ?_
            show _ = Result.ok (Next.value (.bool true)) v
            simp [execOp, go_sem, e33, e47]
        · intro listed b W3 hJ hr
          obtain ⟨hsz, hC, x, hF, hM⟩ := hJ
          have hall := all_upB2 (by rfl) hsz hr
          have hb : b = putAll _ _ _ 22 := hF.done (Slots.of (by rfl)) hall
          subst hb
          subst hM
          simp only [putAll]
          simp [dstOf, Act.put]
          clear hF hC hall hr hsz
          go_wp2
          go_ret
          exact ⟨ret_boolZ (by rw [HP.out, HE.out]), by rw [HP.out, HE.out]; exact HR.out.prs.same rfl, HKW.out.drew.drew⟩
    · have hkz : ¬ (k : Int) < (l.length : Int) := by omega
      obtain rfl : l.length = k := by omega
      have he := h.eq
      rw [List.drop_length, kidsL] at he
      have HE := Lib.hid he; have HR := Lib.hid h; have HKW := Lib.hid hkw
      clear he h hkw Hr
      go_wp2
      go_ret
      exact ⟨ret_boolZ (by rw [HP.out, HE.out]), by rw [HP.out, HE.out]; exact HR.out.prs, HKW.out⟩
end Sp
end Go.Proofs.Yteooafgdmpbjeab
