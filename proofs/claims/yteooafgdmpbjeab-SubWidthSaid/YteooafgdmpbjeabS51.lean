/- SubOpts: six types, as a plain function; what is asked of them. Written by gen_lopts.py. -/
import Derived.Test.YteooafgdmpbjeabS50
import Derived.Test.YteooafgdmpbjeabS29
namespace Go.Proofs.Yteooafgdmpbjeab
open Go.RowKit
namespace Sp
open Sc
def T0O : List Kz := [⟨2, [], [], []⟩]
def addO (T : List Kz) (t : Tz) : Nat × Nat × List Kz := addK (hasZ ([] : List NN)) T t
def leO (T : List Kz) (a b : Nat) : Bool := (leL T (openK T [] 13) a b).1
set_option maxRecDepth 100000
end Sp
end Go.Proofs.Yteooafgdmpbjeab
namespace Go.Proofs.Yteooafgdmpbjeab
open Go.RowKit
namespace Sp
open Sc
/-- Which of eight names, in order. -/
def widL (f : Nat → Bool) (n : Nat) : List Nat := (List.range n).filter f
theorem widL_succ (f : Nat → Bool) (n : Nat) : widL f (n + 1) = if f n then widL f n ++ [n] else widL f n := by
  unfold widL
  rw [List.range_succ, List.filter_append]
  by_cases h : f n <;> simp [h]
def zBl : Tz := .mk 1 [] [] []
def widX (q : Nat) (l : List Nat) : Tz := .mk (7 + q : Nat) [] (l.map fun k => [UInt8.ofNat (97 + k)]) (l.map fun _ => zBl)
/-- What is asked: x, y, the table's Opt; who fits whom. -/
structure WidF (q : Nat) (x y : Tz) (a b o : Nat) (T1 T2 T3 : List Kz) : Prop where
  a1 : addO T0O x = (a, 0, T1)
  a2 : addO T1 y = (b, 0, T2)
  a3 : numK T2 (optK a) = (o, 0, T3)
  al2 : a < T2.length
  al : a < T3.length
  bl : b < T3.length
  ol : o < T3.length
  op : OpL T3 []
  p : leO T3 a b = decide (q = 0)
  q : leO T3 b a = decide (q ≠ 0)
  r : leO T3 a o = true
  u : leO T3 o a = false
def widB (q : Nat) (x y : Tz) : Bool :=
  let A := addO T0O x
  let B := addO A.2.2 y
  let C := numK B.2.2 (optK A.1)
  let T := C.2.2
  decide (A.2.1 = 0) && (decide (B.2.1 = 0) && (decide (C.2.1 = 0) && (decide (A.1 < B.2.2.length) && (decide (A.1 < T.length) && (decide (B.1 < T.length) && (decide (C.1 < T.length) && (opB T [] &&
    (leO T A.1 B.1 == decide (q = 0) && (leO T B.1 A.1 == decide (q ≠ 0) && (leO T A.1 C.1 == true && leO T C.1 A.1 == false))))))))))
theorem wid_is {q : Nat} {x y : Tz} (h : widB q x y = true) : ∃ a b o T1 T2 T3, WidF q x y a b o T1 T2 T3 := by
  unfold widB at h
  simp only [Bool.and_eq_true, decide_eq_true_eq, beq_iff_eq] at h
  obtain ⟨h1, h2, h3, h4, h5, h6, h7, h8, h9, h10, h11, h12⟩ := h
  exact ⟨_, _, _, _, _, _, Prod.ext rfl (Prod.ext h1 rfl), Prod.ext rfl (Prod.ext h2 rfl), Prod.ext rfl (Prod.ext h3 rfl), h4, h5, h6, h7, opB_is h8, h9, h10, h11, h12⟩
/-- The bits of a number below 256, as lists of names. -/
def widM (m : Nat) : List Nat := widL (fun k => m.testBit k) 8
def widA (m : Nat) : Bool := decide ((widM m).length < 2) || (List.range (widM m).length).all fun k => (List.range 2).all fun q => fitZ (widX q (widM m)) && (fitZ (widX q ((widM m).eraseIdx k)) && (shortZ (widX q (widM m)) && (shortZ (widX q ((widM m).eraseIdx k)) && widB q (widX q (widM m)) (widX q ((widM m).eraseIdx k)))))
set_option maxRecDepth 100000
theorem widA_0 : (List.range 64).all (fun m => widA (0 + m)) = true := by kernel_rfl
theorem widA_1 : (List.range 64).all (fun m => widA (64 + m)) = true := by kernel_rfl
theorem widA_2 : (List.range 64).all (fun m => widA (128 + m)) = true := by kernel_rfl
theorem widA_3 : (List.range 64).all (fun m => widA (192 + m)) = true := by kernel_rfl
theorem widA_all {m : Nat} (h : m < 256) : widA m = true := by
  have a0 := fun k (hk : k < 64) => List.all_eq_true.1 widA_0 k (List.mem_range.2 hk)
  have a1 := fun k (hk : k < 64) => List.all_eq_true.1 widA_1 k (List.mem_range.2 hk)
  have a2 := fun k (hk : k < 64) => List.all_eq_true.1 widA_2 k (List.mem_range.2 hk)
  have a3 := fun k (hk : k < 64) => List.all_eq_true.1 widA_3 k (List.mem_range.2 hk)
  rcases (by omega : m < 64 ∨ (64 ≤ m ∧ m < 128) ∨ (128 ≤ m ∧ m < 192) ∨ 192 ≤ m) with h | h | h | h
  · have := a0 m h; rwa [Nat.zero_add] at this
  · have := a1 (m - 64) (by omega); rwa [show 64 + (m - 64) = m by omega] at this
  · have := a2 (m - 128) (by omega); rwa [show 128 + (m - 128) = m by omega] at this
  · have := a3 (m - 192) (by omega); rwa [show 192 + (m - 192) = m by omega] at this
/-- The number of a list of names. -/
def widN (f : Nat → Bool) : Nat → Nat
  | 0 => 0
  | n + 1 => widN f n + if f n then 2 ^ n else 0
theorem widN_lt (f : Nat → Bool) : ∀ n, widN f n < 2 ^ n
  | 0 => by simp [widN]
  | n + 1 => by
    have := widN_lt f n
    rw [widN, Nat.pow_succ]
    split <;> omega
theorem widN_bit (f : Nat → Bool) : ∀ n k, k < n → (widN f n).testBit k = f k
  | n + 1, k, h => by
    have h1 := widN_lt f n
    rw [widN]
    by_cases hk : k = n
    · subst hk
      by_cases hf : f k
      · rw [if_pos hf, Nat.add_comm, Nat.testBit_two_pow_add_eq, Nat.testBit_lt_two_pow h1, hf]; rfl
      · rw [if_neg hf, Nat.add_zero, Nat.testBit_lt_two_pow h1]; simpa using hf
    · have h2 := widN_bit f n k (by omega)
      by_cases hf : f n
      · rw [if_pos hf, Nat.add_comm, Nat.testBit_two_pow_add_gt (by omega), h2]
      · rw [if_neg hf, Nat.add_zero, h2]
theorem widM_of (f : Nat → Bool) : widM (widN f 8) = widL f 8 := by
  unfold widM widL
  apply List.filter_congr
  intro k hk
  rw [widN_bit f 8 k (List.mem_range.1 hk)]
/-- Of any names: what is asked. -/
theorem wid_all (f : Nat → Bool) (h2 : 2 ≤ (widL f 8).length) {k q : Nat} (hk : k < (widL f 8).length) (hq : q < 2) :
    (fitZ (widX q (widL f 8)) = true ∧ fitZ (widX q ((widL f 8).eraseIdx k)) = true ∧ shortZ (widX q (widL f 8)) = true ∧ shortZ (widX q ((widL f 8).eraseIdx k)) = true) ∧ ∃ a b o T1 T2 T3, WidF q (widX q (widL f 8)) (widX q ((widL f 8).eraseIdx k)) a b o T1 T2 T3 := by
  have h := widA_all (widN_lt f 8)
  unfold widA at h
  rw [widM_of, Bool.or_eq_true, decide_eq_true_eq] at h
  have h := h.resolve_left (by omega)
  have h := List.all_eq_true.1 (List.all_eq_true.1 h k (List.mem_range.2 hk)) q (List.mem_range.2 hq)
  simp only [Bool.and_eq_true] at h
  obtain ⟨e1, e2, e3, e4, e5⟩ := h
  exact ⟨⟨e1, e2, e3, e4⟩, wid_is e5⟩
end Sp
end Go.Proofs.Yteooafgdmpbjeab
namespace Go.Proofs.Yteooafgdmpbjeab
open Go.RowKit
namespace Sp
open Sc
/-- What the statement makes: the block of the name, the row of names, the block of the kid, the row of kids. -/
structure Tw where
  tn : Value
  an : Value
  tk : Value
  ak : Value
section
variable (W0 : World) (B tb base : Nat) (q : Int) (c : Nat) (xn xk : Value) (ns ks nw kw : List Value)
structure TwM (l6 l7 l12 l13 l15 l17 : Bool) (x : Tw) (v : World) : Prop where
  sn : Side W0 base 9 1 xn c ns nw l6 l7 x.tn x.an v
  sk : Side W0 base 31 4 xk c ks kw l12 l13 x.tk x.ak v
  ap : ApartV (curV xn x.an l7) (curV xk x.ak l13)
  tat : v.heap[tb]? = some (.cells #[.int .i64 q, .string ⟨#[]⟩, if l15 then x.an else xn, if l17 then x.ak else xk] 31 (0, 0))
  far : ∀ g, g < W0.heap.size → g ≠ tb → xn.ownBlock ≠ some g → xk.ownBlock ≠ some g → v.heap[g]? = W0.heap[g]?
  below : Below B W0 v
  size : W0.heap.size ≤ v.heap.size
  tlt : tb < W0.heap.size
  tbase : tb < base
  bt : B ≤ tb
end
section
variable {W0 : World} {B tb base : Nat} {q : Int} {c : Nat} {xn xk : Value} {ns ks nw kw : List Value} {l6 l7 l12 l13 l15 l17 : Bool} {x : Tw} {v : World}
theorem set_fourA {w : World} {b : Nat} {t : TypeId} {v0 v1 v2 v3 : Value} (h : w.heap[b]? = some (.cells #[v0, v1, v2, v3] t (0, 0))) (v : Value) : (w.setCell ⟨b, 2, none⟩ v).heap[b]? = some (.cells #[v0, v1, v, v3] t (0, 0)) := by
  unfold World.setCell; simp [Array.getElem?_modify, h]
theorem set_fourB {w : World} {b : Nat} {t : TypeId} {v0 v1 v2 v3 : Value} (h : w.heap[b]? = some (.cells #[v0, v1, v2, v3] t (0, 0))) (v : Value) : (w.setCell ⟨b, 3, none⟩ v).heap[b]? = some (.cells #[v0, v1, v2, v] t (0, 0)) := by
  unfold World.setCell; simp [Array.getElem?_modify, h]
theorem TwM.start (hn : W0.ownsRow base 9 1 xn c ns) (hk : W0.ownsRow base 31 4 xk c ks) (ha : ApartV xn xk) (ht : W0.heap[tb]? = some (.cells #[.int .i64 q, .string ⟨#[]⟩, xn, xk] 31 (0, 0))) (hb : tb < base) (hB : B ≤ tb) (x : Tw) :
    TwM W0 B tb base q c xn xk ns ks nw kw false false false false false false x W0 :=
  ⟨Side.start nw hn _ _, Side.start kw hk _ _, ha, ht, fun _ _ _ _ _ => rfl, Below.refl _ _, Nat.le_refl _, (Array.getElem?_eq_some_iff.1 ht).1, hb, hB⟩
theorem TwM.layN (h : TwM W0 B tb base q c xn xk ns ks nw kw false false l12 l13 l15 l17 x v) :
    TwM W0 B tb base q c xn xk ns ks nw kw true false l12 l13 l15 l17 ⟨.slice (some ⟨v.heap.size, 0, none⟩) 1 1, x.an, x.tk, x.ak⟩ (v.alloc (.cells nw.toArray 9)) := by
  have gr : v.grownBy (v.alloc (.cells nw.toArray 9)) none := World.grownBy_alloc v _ _
  have hs := h.size
  exact ⟨h.sn.lay hs, h.sk.keep gr (fun g e => by cases e), h.ap, blk_allocZ h.tat _, fun g h1 h2 h3 h4 => (Below.heap_alloc _ _ _ (Nat.lt_of_lt_of_le h1 hs)).trans (h.far g h1 h2 h3 h4), h.below.alloc (by have := h.bt; have := h.tlt; omega) _, Nat.le_trans hs gr.size, h.tlt, h.tbase, h.bt⟩
theorem TwM.layK (h : TwM W0 B tb base q c xn xk ns ks nw kw l6 l7 false false l15 l17 x v) :
    TwM W0 B tb base q c xn xk ns ks nw kw l6 l7 true false l15 l17 ⟨x.tn, x.an, .slice (some ⟨v.heap.size, 0, none⟩) 1 1, x.ak⟩ (v.alloc (.cells kw.toArray 31)) := by
  have gr : v.grownBy (v.alloc (.cells kw.toArray 31)) none := World.grownBy_alloc v _ _
  have hs := h.size
  exact ⟨h.sn.keep gr (fun g e => by cases e), h.sk.lay hs, h.ap, blk_allocZ h.tat _, fun g h1 h2 h3 h4 => (Below.heap_alloc _ _ _ (Nat.lt_of_lt_of_le h1 hs)).trans (h.far g h1 h2 h3 h4), h.below.alloc (by have := h.bt; have := h.tlt; omega) _, Nat.le_trans hs gr.size, h.tlt, h.tbase, h.bt⟩
theorem TwM.appN (h : TwM W0 B tb base q c xn xk ns ks nw kw true false l12 l13 false l17 x v) {y : Value} {w3 : World} (hown : w3.ownsRow base 9 1 y (c + 1) (ns ++ nw)) (hgr : v.grownBy w3 xn.ownBlock) (hfr : ∀ g, y.ownBlock = some g → xn.ownBlock = some g ∨ v.heap.size ≤ g) :
    TwM W0 B tb base q c xn xk ns ks nw kw true true l12 l13 false l17 ⟨x.tn, y, x.tk, x.ak⟩ w3 := by
  have hx := h.sn.old.lt
  have hs := h.size
  have hb := h.tbase
  have hB := h.bt
  have ht := h.tlt
  exact ⟨h.sn.app hs hown hfr, h.sk.keep hgr (fun g e => ⟨(hx g e).2, h.ap g e⟩), ApartV.app h.ap hfr (fun g hg => (h.sk.cur_lt g hg).2),
    (hgr.block tb (by omega) (fun e => by have := (hx _ e.symm).1; omega)).trans h.tat,
    fun g h1 h2 h3 h4 => (hgr.block g (Nat.lt_of_lt_of_le h1 hs) (fun e => h3 e.symm)).trans (h.far g h1 h2 h3 h4), h.below.trans (below_grown hgr (fun g e => by have := (hx g e).1; omega) (by omega)), Nat.le_trans hs hgr.size, ht, hb, hB⟩
theorem TwM.appK (h : TwM W0 B tb base q c xn xk ns ks nw kw l6 l7 true false l15 false x v) {y : Value} {w3 : World} (hown : w3.ownsRow base 31 4 y (c + 1) (ks ++ kw)) (hgr : v.grownBy w3 xk.ownBlock) (hfr : ∀ g, y.ownBlock = some g → xk.ownBlock = some g ∨ v.heap.size ≤ g) :
    TwM W0 B tb base q c xn xk ns ks nw kw l6 l7 true true l15 false ⟨x.tn, x.an, x.tk, y⟩ w3 := by
  have hx := h.sk.old.lt
  have hs := h.size
  have hb := h.tbase
  have hB := h.bt
  have ht := h.tlt
  exact ⟨h.sn.keep hgr (fun g e => ⟨(hx g e).2, h.ap.symm g e⟩), h.sk.app hs hown hfr, (ApartV.app h.ap.symm hfr (fun g hg => (h.sn.cur_lt g hg).2)).symm,
    (hgr.block tb (by omega) (fun e => by have := (hx _ e.symm).1; omega)).trans h.tat,
    fun g h1 h2 h3 h4 => (hgr.block g (Nat.lt_of_lt_of_le h1 hs) (fun e => h4 e.symm)).trans (h.far g h1 h2 h3 h4), h.below.trans (below_grown hgr (fun g e => by have := (hx g e).1; omega) (by omega)), Nat.le_trans hs hgr.size, ht, hb, hB⟩
theorem TwM.putN (h : TwM W0 B tb base q c xn xk ns ks nw kw l6 true l12 true false l17 x v) :
    TwM W0 B tb base q c xn xk ns ks nw kw l6 true l12 true true l17 x (v.setCell ⟨tb, 2, none⟩ x.an) := by
  have hs := h.size
  have hb := h.tbase
  have hB := h.bt
  have ht := h.tlt
  have gr : v.grownBy (v.setCell ⟨tb, 2, none⟩ x.an) (some tb) := (Only.refl tb v).setCell 2 _
  have tt := h.tat
  rw [if_neg (by decide)] at tt
  exact ⟨h.sn.keep gr (fun g e => by cases e; exact ⟨ht, fun e2 => by have := (h.sn.cur_lt _ e2).1; omega⟩), h.sk.keep gr (fun g e => by cases e; exact ⟨ht, fun e2 => by have := (h.sk.cur_lt _ e2).1; omega⟩), h.ap, set_fourA tt _,
    fun g h1 h2 h3 h4 => (gr.block g (Nat.lt_of_lt_of_le h1 hs) (fun e => h2 (by cases e; rfl))).trans (h.far g h1 h2 h3 h4), h.below.trans (below_grown gr (fun g e => by cases e; omega) (by omega)), Nat.le_trans hs gr.size, ht, hb, hB⟩
theorem TwM.putK (h : TwM W0 B tb base q c xn xk ns ks nw kw l6 true l12 true l15 false x v) :
    TwM W0 B tb base q c xn xk ns ks nw kw l6 true l12 true l15 true x (v.setCell ⟨tb, 3, none⟩ x.ak) := by
  have hs := h.size
  have hb := h.tbase
  have hB := h.bt
  have ht := h.tlt
  have gr : v.grownBy (v.setCell ⟨tb, 3, none⟩ x.ak) (some tb) := (Only.refl tb v).setCell 3 _
  have tt := h.tat
  rw [if_neg (show ¬ (false = true) by decide)] at tt
  exact ⟨h.sn.keep gr (fun g e => by cases e; exact ⟨ht, fun e2 => by have := (h.sn.cur_lt _ e2).1; omega⟩), h.sk.keep gr (fun g e => by cases e; exact ⟨ht, fun e2 => by have := (h.sk.cur_lt _ e2).1; omega⟩), h.ap, set_fourB tt _,
    fun g h1 h2 h3 h4 => (gr.block g (Nat.lt_of_lt_of_le h1 hs) (fun e => h2 (by cases e; rfl))).trans (h.far g h1 h2 h3 h4), h.below.trans (below_grown gr (fun g e => by cases e; omega) (by omega)), Nat.le_trans hs gr.size, ht, hb, hB⟩
theorem rep_getDL (n i : Nat) : (Array.replicate n false).getD i false = false := by
  rw [Array.getD_eq_getD_getElem?]
  by_cases hi : i < n <;> simp [hi]
/-- Behind the statement. -/
structure TwD (W0 : World) (B tb base : Nat) (q : Int) (c : Nat) (xn xk : Value) (ns ks : List Value) (yn yk : Value) (v : World) : Prop where
  names : v.ownsRow base 9 1 yn (c + 1) ns
  kids : v.ownsRow base 31 4 yk (c + 1) ks
  apart : ApartV yn yk
  tat : v.heap[tb]? = some (.cells #[.int .i64 q, .string ⟨#[]⟩, yn, yk] 31 (0, 0))
  far : ∀ g, g < W0.heap.size → g ≠ tb → xn.ownBlock ≠ some g → xk.ownBlock ≠ some g → v.heap[g]? = W0.heap[g]?
  below : Below B W0 v
  size : W0.heap.size ≤ v.heap.size
theorem TwM.over (h : TwM W0 B tb base q c xn xk ns ks nw kw true true true true true true x v) : TwD W0 B tb base q c xn xk (ns ++ nw) (ks ++ kw) x.an x.ak v :=
  ⟨h.sn.done rfl, h.sk.done rfl, h.ap, h.tat, h.far, h.below, h.size⟩
end
end Sp
end Go.Proofs.Yteooafgdmpbjeab
