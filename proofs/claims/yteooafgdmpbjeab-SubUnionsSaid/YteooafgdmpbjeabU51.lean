/- One more name and one more kid, by two appends in one statement whose order is open: memory while it runs. -/
import Derived.Test.YteooafgdmpbjeabU29
import Derived.Test.YteooafgdmpbjeabU49
import Derived.Test.YteooafgdmpbjeabU24
namespace Go.Proofs.Yteooafgdmpbjeab
open Go.RowKit
namespace Sp
open Sc
/-- What the statement makes: the block of the name, the row of names, the block of the kid, the row of kids. -/
structure Tw where
  tn : Value
  an : Value
  tk : Value
  ak : Value
section
variable (W0 : World) (B tb base : Nat) (q : Int) (c : Nat) (xn xk : Value) (ns ks nw kw : List Value)
structure TwM (l6 l7 l12 l13 l15 l17 : Bool) (x : Tw) (v : World) : Prop where
  sn : Side W0 base 9 1 xn c ns nw l6 l7 x.tn x.an v
  sk : Side W0 base 31 4 xk c ks kw l12 l13 x.tk x.ak v
  ap : ApartV (curV xn x.an l7) (curV xk x.ak l13)
  tat : v.heap[tb]? = some (.cells #[.int .i64 q, .string ⟨#[]⟩, if l15 then x.an else xn, if l17 then x.ak else xk] 31 (0, 0))
  far : ∀ g, g < W0.heap.size → g ≠ tb → xn.ownBlock ≠ some g → xk.ownBlock ≠ some g → v.heap[g]? = W0.heap[g]?
  below : Below B W0 v
  size : W0.heap.size ≤ v.heap.size
  tlt : tb < W0.heap.size
  tbase : tb < base
  bt : B ≤ tb
end
section
variable {W0 : World} {B tb base : Nat} {q : Int} {c : Nat} {xn xk : Value} {ns ks nw kw : List Value} {l6 l7 l12 l13 l15 l17 : Bool} {x : Tw} {v : World}
theorem set_fourA {w : World} {b : Nat} {t : TypeId} {v0 v1 v2 v3 : Value} (h : w.heap[b]? = some (.cells #[v0, v1, v2, v3] t (0, 0))) (v : Value) : (w.setCell ⟨b, 2, none⟩ v).heap[b]? = some (.cells #[v0, v1, v, v3] t (0, 0)) := by
  unfold World.setCell; simp [Array.getElem?_modify, h]
theorem set_fourB {w : World} {b : Nat} {t : TypeId} {v0 v1 v2 v3 : Value} (h : w.heap[b]? = some (.cells #[v0, v1, v2, v3] t (0, 0))) (v : Value) : (w.setCell ⟨b, 3, none⟩ v).heap[b]? = some (.cells #[v0, v1, v2, v] t (0, 0)) := by
  unfold World.setCell; simp [Array.getElem?_modify, h]
theorem TwM.start (hn : W0.ownsRow base 9 1 xn c ns) (hk : W0.ownsRow base 31 4 xk c ks) (ha : ApartV xn xk) (ht : W0.heap[tb]? = some (.cells #[.int .i64 q, .string ⟨#[]⟩, xn, xk] 31 (0, 0))) (hb : tb < base) (hB : B ≤ tb) (x : Tw) :
    TwM W0 B tb base q c xn xk ns ks nw kw false false false false false false x W0 :=
  ⟨Side.start nw hn _ _, Side.start kw hk _ _, ha, ht, fun _ _ _ _ _ => rfl, Below.refl _ _, Nat.le_refl _, (Array.getElem?_eq_some_iff.1 ht).1, hb, hB⟩
theorem TwM.layN (h : TwM W0 B tb base q c xn xk ns ks nw kw false false l12 l13 l15 l17 x v) :
    TwM W0 B tb base q c xn xk ns ks nw kw true false l12 l13 l15 l17 ⟨.slice (some ⟨v.heap.size, 0, none⟩) 1 1, x.an, x.tk, x.ak⟩ (v.alloc (.cells nw.toArray 9)) := by
  have gr : v.grownBy (v.alloc (.cells nw.toArray 9)) none := World.grownBy_alloc v _ _
  have hs := h.size
  exact ⟨h.sn.lay hs, h.sk.keep gr (fun g e => by cases e), h.ap, blk_allocZ h.tat _, fun g h1 h2 h3 h4 => (Below.heap_alloc _ _ _ (Nat.lt_of_lt_of_le h1 hs)).trans (h.far g h1 h2 h3 h4), h.below.alloc (by have := h.bt; have := h.tlt; omega) _, Nat.le_trans hs gr.size, h.tlt, h.tbase, h.bt⟩
theorem TwM.layK (h : TwM W0 B tb base q c xn xk ns ks nw kw l6 l7 false false l15 l17 x v) :
    TwM W0 B tb base q c xn xk ns ks nw kw l6 l7 true false l15 l17 ⟨x.tn, x.an, .slice (some ⟨v.heap.size, 0, none⟩) 1 1, x.ak⟩ (v.alloc (.cells kw.toArray 31)) := by
  have gr : v.grownBy (v.alloc (.cells kw.toArray 31)) none := World.grownBy_alloc v _ _
  have hs := h.size
  exact ⟨h.sn.keep gr (fun g e => by cases e), h.sk.lay hs, h.ap, blk_allocZ h.tat _, fun g h1 h2 h3 h4 => (Below.heap_alloc _ _ _ (Nat.lt_of_lt_of_le h1 hs)).trans (h.far g h1 h2 h3 h4), h.below.alloc (by have := h.bt; have := h.tlt; omega) _, Nat.le_trans hs gr.size, h.tlt, h.tbase, h.bt⟩
theorem TwM.appN (h : TwM W0 B tb base q c xn xk ns ks nw kw true false l12 l13 false l17 x v) {y : Value} {w3 : World} (hown : w3.ownsRow base 9 1 y (c + 1) (ns ++ nw)) (hgr : v.grownBy w3 xn.ownBlock) (hfr : ∀ g, y.ownBlock = some g → xn.ownBlock = some g ∨ v.heap.size ≤ g) :
    TwM W0 B tb base q c xn xk ns ks nw kw true true l12 l13 false l17 ⟨x.tn, y, x.tk, x.ak⟩ w3 := by
  have hx := h.sn.old.lt
  have hs := h.size
  have hb := h.tbase
  have hB := h.bt
  have ht := h.tlt
  exact ⟨h.sn.app hs hown hfr, h.sk.keep hgr (fun g e => ⟨(hx g e).2, h.ap g e⟩), ApartV.app h.ap hfr (fun g hg => (h.sk.cur_lt g hg).2),
    (hgr.block tb (by omega) (fun e => by have := (hx _ e.symm).1; omega)).trans h.tat,
    fun g h1 h2 h3 h4 => (hgr.block g (Nat.lt_of_lt_of_le h1 hs) (fun e => h3 e.symm)).trans (h.far g h1 h2 h3 h4), h.below.trans (below_grown hgr (fun g e => by have := (hx g e).1; omega) (by omega)), Nat.le_trans hs hgr.size, ht, hb, hB⟩
theorem TwM.appK (h : TwM W0 B tb base q c xn xk ns ks nw kw l6 l7 true false l15 false x v) {y : Value} {w3 : World} (hown : w3.ownsRow base 31 4 y (c + 1) (ks ++ kw)) (hgr : v.grownBy w3 xk.ownBlock) (hfr : ∀ g, y.ownBlock = some g → xk.ownBlock = some g ∨ v.heap.size ≤ g) :
    TwM W0 B tb base q c xn xk ns ks nw kw l6 l7 true true l15 false ⟨x.tn, x.an, x.tk, y⟩ w3 := by
  have hx := h.sk.old.lt
  have hs := h.size
  have hb := h.tbase
  have hB := h.bt
  have ht := h.tlt
  exact ⟨h.sn.keep hgr (fun g e => ⟨(hx g e).2, h.ap.symm g e⟩), h.sk.app hs hown hfr, (ApartV.app h.ap.symm hfr (fun g hg => (h.sn.cur_lt g hg).2)).symm,
    (hgr.block tb (by omega) (fun e => by have := (hx _ e.symm).1; omega)).trans h.tat,
    fun g h1 h2 h3 h4 => (hgr.block g (Nat.lt_of_lt_of_le h1 hs) (fun e => h4 e.symm)).trans (h.far g h1 h2 h3 h4), h.below.trans (below_grown hgr (fun g e => by have := (hx g e).1; omega) (by omega)), Nat.le_trans hs hgr.size, ht, hb, hB⟩
theorem TwM.putN (h : TwM W0 B tb base q c xn xk ns ks nw kw l6 true l12 true false l17 x v) :
    TwM W0 B tb base q c xn xk ns ks nw kw l6 true l12 true true l17 x (v.setCell ⟨tb, 2, none⟩ x.an) := by
  have hs := h.size
  have hb := h.tbase
  have hB := h.bt
  have ht := h.tlt
  have gr : v.grownBy (v.setCell ⟨tb, 2, none⟩ x.an) (some tb) := (Only.refl tb v).setCell 2 _
  have tt := h.tat
  rw [if_neg (by decide)] at tt
  exact ⟨h.sn.keep gr (fun g e => by cases e; exact ⟨ht, fun e2 => by have := (h.sn.cur_lt _ e2).1; omega⟩), h.sk.keep gr (fun g e => by cases e; exact ⟨ht, fun e2 => by have := (h.sk.cur_lt _ e2).1; omega⟩), h.ap, set_fourA tt _,
    fun g h1 h2 h3 h4 => (gr.block g (Nat.lt_of_lt_of_le h1 hs) (fun e => h2 (by cases e; rfl))).trans (h.far g h1 h2 h3 h4), h.below.trans (below_grown gr (fun g e => by cases e; omega) (by omega)), Nat.le_trans hs gr.size, ht, hb, hB⟩
theorem TwM.putK (h : TwM W0 B tb base q c xn xk ns ks nw kw l6 true l12 true l15 false x v) :
    TwM W0 B tb base q c xn xk ns ks nw kw l6 true l12 true l15 true x (v.setCell ⟨tb, 3, none⟩ x.ak) := by
  have hs := h.size
  have hb := h.tbase
  have hB := h.bt
  have ht := h.tlt
  have gr : v.grownBy (v.setCell ⟨tb, 3, none⟩ x.ak) (some tb) := (Only.refl tb v).setCell 3 _
  have tt := h.tat
  rw [if_neg (show ¬ (false = true) by decide)] at tt
  exact ⟨h.sn.keep gr (fun g e => by cases e; exact ⟨ht, fun e2 => by have := (h.sn.cur_lt _ e2).1; omega⟩), h.sk.keep gr (fun g e => by cases e; exact ⟨ht, fun e2 => by have := (h.sk.cur_lt _ e2).1; omega⟩), h.ap, set_fourB tt _,
    fun g h1 h2 h3 h4 => (gr.block g (Nat.lt_of_lt_of_le h1 hs) (fun e => h2 (by cases e; rfl))).trans (h.far g h1 h2 h3 h4), h.below.trans (below_grown gr (fun g e => by cases e; omega) (by omega)), Nat.le_trans hs gr.size, ht, hb, hB⟩
theorem rep_getDL (n i : Nat) : (Array.replicate n false).getD i false = false := by
  rw [Array.getD_eq_getD_getElem?]
  by_cases hi : i < n <;> simp [hi]
/-- Behind the statement. -/
structure TwD (W0 : World) (B tb base : Nat) (q : Int) (c : Nat) (xn xk : Value) (ns ks : List Value) (yn yk : Value) (v : World) : Prop where
  names : v.ownsRow base 9 1 yn (c + 1) ns
  kids : v.ownsRow base 31 4 yk (c + 1) ks
  apart : ApartV yn yk
  tat : v.heap[tb]? = some (.cells #[.int .i64 q, .string ⟨#[]⟩, yn, yk] 31 (0, 0))
  far : ∀ g, g < W0.heap.size → g ≠ tb → xn.ownBlock ≠ some g → xk.ownBlock ≠ some g → v.heap[g]? = W0.heap[g]?
  below : Below B W0 v
  size : W0.heap.size ≤ v.heap.size
theorem TwM.over (h : TwM W0 B tb base q c xn xk ns ks nw kw true true true true true true x v) : TwD W0 B tb base q c xn xk (ns ++ nw) (ks ++ kw) x.an x.ak v :=
  ⟨h.sn.done rfl, h.sk.done rfl, h.ap, h.tat, h.far, h.below, h.size⟩
end
end Sp
end Go.Proofs.Yteooafgdmpbjeab
namespace Go.Proofs.Yteooafgdmpbjeab
open Go.RowKit
namespace Sp
open Sc
def wdN (l : List Nat) : List Value := l.map fun k => .string ⟨#[letB k]⟩
theorem wdN_flat (l : List Nat) : wdN l = (l.map fun k => [Value.string ⟨#[letB k]⟩]).flatten := by
  unfold wdN
  induction l with
  | nil => rfl
  | cons a r ih => simp [ih]
theorem own_rowS {w : World} {base k n cn : Nat} {e : TypeId} {an : Option Addr} {l : List (List Value)} (h : w.ownsRow base e k (.slice an n cn) n l.flatten) (hk : ∀ x ∈ l, x.length = k) (hn : n = l.length) : RowV w (fun g => base ≤ g ∧ g < w.heap.size) an k l := by
  obtain ⟨a, c, e, r⟩ := RowV.own h hk hn (S := fun g => base ≤ g ∧ g < w.heap.size) (fun g hg => h.lt g hg)
  cases e
  exact r
end Sp
end Go.Proofs.Yteooafgdmpbjeab
