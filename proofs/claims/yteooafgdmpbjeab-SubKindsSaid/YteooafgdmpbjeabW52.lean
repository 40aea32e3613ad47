/- SubKinds: two trees and their variables, made in one statement whose order is open; a table beside them. -/
import Derived.Test.YteooafgdmpbjeabW47
import Derived.Test.YteooafgdmpbjeabW51
import Derived.Test.YteooafgdmpbjeabW38
import Derived.Test.YteooafgdmpbjeabW19
import Derived.Test.YteooafgdmpbjeabW24
import Derived.Test.YteooafgdmpbjeabW46
import Derived.Test.YteooafgdmpbjeabW42
namespace Go.Proofs.Yteooafgdmpbjeab
open Go.RowKit
namespace Sp
open Sc
structure Kx where
  xb : Nat
  yb : Nat
  cx : C4
  cy : C4
def zC : C4 := ⟨0, ⟨#[]⟩, none, 0, 0, none, 0, 0⟩
def arr4 (c : C4) : Array Value := #[.int .i64 c.k, .string c.n, .slice c.an c.ln c.cn, .slice c.ak c.lk c.ck]
def KmS (W0 v : World) (l4 l5 : Bool) (x : Kx) (g : Nat) : Prop := W0.heap.size ≤ g ∧ g < v.heap.size ∧ (l4 = true → g ≠ x.xb) ∧ (l5 = true → g ≠ x.yb)
structure KmM (W0 : World) (X Y : Tz) (l1 l3 l4 l5 l6 l7 : Bool) (x : Kx) (v : World) : Prop where
  below : Below W0.heap.size W0 v
  tx : l1 = true → TzV v (KmS W0 v l4 l5 x) X x.cx
  ty : l3 = true → TzV v (KmS W0 v l4 l5 x) Y x.cy
  bx : l4 = true → W0.heap.size ≤ x.xb ∧ v.heap[x.xb]? = some (.cells (arr4 (if l6 then x.cx else zC)) 31 (0, 0))
  bY : l5 = true → W0.heap.size ≤ x.yb ∧ v.heap[x.yb]? = some (.cells (arr4 (if l7 then x.cy else zC)) 31 (0, 0))
  ne : l4 = true → l5 = true → x.xb ≠ x.yb
section
variable {W0 v w' : World} {X Y : Tz} {l1 l3 l4 l5 l6 l7 : Bool} {x : Kx} {c : C4}
theorem blk_lt {w : World} {b : Nat} {o : Obj} (h : w.heap[b]? = some o) : b < w.heap.size := (Array.getElem?_eq_some_iff.1 h).1
theorem KmM.start (x : Kx) : KmM W0 X Y false false false false false false x W0 := ⟨Below.refl _ _, (fun h => by cases h), (fun h => by cases h), (fun h => by cases h), (fun h => by cases h), (fun h => by cases h)⟩
theorem KmM.callX (h : KmM W0 X Y false l3 l4 l5 false l7 x v) (hk : TzV w' (New v.heap.size w') X c) (hb : Below v.heap.size v w') : KmM W0 X Y true l3 l4 l5 false l7 ⟨x.xb, x.yb, c, x.cy⟩ w' := by
  have hz := h.below.size
  have hz2 := hb.size
  refine ⟨h.below.trans (hb.mono hz), fun _ => hk.keep (fun g hg => ⟨by have := hg.1; omega, hg.2, fun e e2 => ?_, fun e e2 => ?_⟩) (fun _ _ => rfl), fun e => (h.ty e).keep (fun g hg => ⟨hg.1, by have := hg.2.1; omega, hg.2.2⟩) (fun g hg => hb.block g hg.2.1),
    fun e => ⟨(h.bx e).1, (hb.block _ (blk_lt (h.bx e).2)).trans (h.bx e).2⟩, fun e => ⟨(h.bY e).1, (hb.block _ (blk_lt (h.bY e).2)).trans (h.bY e).2⟩, h.ne⟩
  · have := blk_lt (h.bx e).2; have := hg.1; simp only at e2; omega
  · have := blk_lt (h.bY e).2; have := hg.1; simp only at e2; omega
theorem KmM.callY (h : KmM W0 X Y l1 false l4 l5 l6 false x v) (hk : TzV w' (New v.heap.size w') Y c) (hb : Below v.heap.size v w') : KmM W0 X Y l1 true l4 l5 l6 false ⟨x.xb, x.yb, x.cx, c⟩ w' := by
  have hz := h.below.size
  have hz2 := hb.size
  refine ⟨h.below.trans (hb.mono hz), fun e => (h.tx e).keep (fun g hg => ⟨hg.1, by have := hg.2.1; omega, hg.2.2⟩) (fun g hg => hb.block g hg.2.1), fun _ => hk.keep (fun g hg => ⟨by have := hg.1; omega, hg.2, fun e e2 => ?_, fun e e2 => ?_⟩) (fun _ _ => rfl),
    fun e => ⟨(h.bx e).1, (hb.block _ (blk_lt (h.bx e).2)).trans (h.bx e).2⟩, fun e => ⟨(h.bY e).1, (hb.block _ (blk_lt (h.bY e).2)).trans (h.bY e).2⟩, h.ne⟩
  · have := blk_lt (h.bx e).2; have := hg.1; simp only at e2; omega
  · have := blk_lt (h.bY e).2; have := hg.1; simp only at e2; omega
theorem KmM.mkX (h : KmM W0 X Y l1 l3 false l5 false l7 x v) : KmM W0 X Y l1 l3 true l5 false l7 ⟨v.heap.size, x.yb, x.cx, x.cy⟩ (v.alloc (.cells (arr4 zC) 31)) := by
  have hz := h.below.size
  have hs : (v.alloc (.cells (arr4 zC) 31)).heap.size = v.heap.size + 1 := by simp
  have hk : ∀ g, g < v.heap.size → (v.alloc (.cells (arr4 zC) 31)).heap[g]? = v.heap[g]? := fun g hg => Below.heap_alloc _ _ _ hg
  refine ⟨h.below.alloc hz _, fun e => (h.tx e).keep (fun g hg => ⟨hg.1, by have := hg.2.1; omega, fun _ e2 => by have := hg.2.1; simp only at e2; omega, hg.2.2.2⟩) (fun g hg => hk g hg.2.1), fun e => (h.ty e).keep (fun g hg => ⟨hg.1, by have := hg.2.1; omega, fun _ e2 => by have := hg.2.1; simp only at e2; omega, hg.2.2.2⟩) (fun g hg => hk g hg.2.1),
    fun _ => ⟨hz, heap_alloc_new v _⟩, fun e => ⟨(h.bY e).1, (hk _ (blk_lt (h.bY e).2)).trans (h.bY e).2⟩, fun _ e e2 => by have := blk_lt (h.bY e).2; simp only at e2; omega⟩
theorem KmM.mkY (h : KmM W0 X Y l1 l3 l4 false l6 false x v) : KmM W0 X Y l1 l3 l4 true l6 false ⟨x.xb, v.heap.size, x.cx, x.cy⟩ (v.alloc (.cells (arr4 zC) 31)) := by
  have hz := h.below.size
  have hs : (v.alloc (.cells (arr4 zC) 31)).heap.size = v.heap.size + 1 := by simp
  have hk : ∀ g, g < v.heap.size → (v.alloc (.cells (arr4 zC) 31)).heap[g]? = v.heap[g]? := fun g hg => Below.heap_alloc _ _ _ hg
  refine ⟨h.below.alloc hz _, fun e => (h.tx e).keep (fun g hg => ⟨hg.1, by have := hg.2.1; omega, hg.2.2.1, fun _ e2 => by have := hg.2.1; simp only at e2; omega⟩) (fun g hg => hk g hg.2.1), fun e => (h.ty e).keep (fun g hg => ⟨hg.1, by have := hg.2.1; omega, hg.2.2.1, fun _ e2 => by have := hg.2.1; simp only at e2; omega⟩) (fun g hg => hk g hg.2.1),
    fun e => ⟨(h.bx e).1, (hk _ (blk_lt (h.bx e).2)).trans (h.bx e).2⟩, fun _ => ⟨hz, heap_alloc_new v _⟩, fun e _ e2 => by have := blk_lt (h.bx e).2; simp only at e2; omega⟩
theorem KmM.putX (h : KmM W0 X Y true true true true false false x v) : KmM W0 X Y true true true true true false x (put4 v x.xb x.cx) := by
  obtain ⟨hx1, hx2⟩ := h.bx rfl
  obtain ⟨hy1, hy2⟩ := h.bY rfl
  have ho := put4_only v x.xb x.cx
  have hz := h.below.size
  have hn := h.ne rfl rfl
  have hk : ∀ g, g < v.heap.size → g ≠ x.xb → (put4 v x.xb x.cx).heap[g]? = v.heap[g]? := fun g h1 h2 => ho.block g h1 (fun e => by cases e; exact h2 rfl)
  have hs := put4_size v x.xb x.cx
  exact ⟨h.below.trans (ho.below hx1 hz), fun e => (h.tx e).keep (fun g hg => ⟨hg.1, by rw [hs]; exact hg.2.1, hg.2.2⟩) (fun g hg => hk g hg.2.1 (hg.2.2.1 rfl)), fun e => (h.ty e).keep (fun g hg => ⟨hg.1, by rw [hs]; exact hg.2.1, hg.2.2⟩) (fun g hg => hk g hg.2.1 (hg.2.2.1 rfl)),
    fun _ => ⟨hx1, put4_at hx2 _⟩, fun _ => ⟨hy1, (hk _ (blk_lt hy2) (fun e => hn e.symm)).trans hy2⟩, h.ne⟩
theorem KmM.putY (h : KmM W0 X Y true true true true true false x v) : KmM W0 X Y true true true true true true x (put4 v x.yb x.cy) := by
  obtain ⟨hx1, hx2⟩ := h.bx rfl
  obtain ⟨hy1, hy2⟩ := h.bY rfl
  have ho := put4_only v x.yb x.cy
  have hz := h.below.size
  have hn := h.ne rfl rfl
  have hk : ∀ g, g < v.heap.size → g ≠ x.yb → (put4 v x.yb x.cy).heap[g]? = v.heap[g]? := fun g h1 h2 => ho.block g h1 (fun e => by cases e; exact h2 rfl)
  have hs := put4_size v x.yb x.cy
  exact ⟨h.below.trans (ho.below hy1 hz), fun e => (h.tx e).keep (fun g hg => ⟨hg.1, by rw [hs]; exact hg.2.1, hg.2.2⟩) (fun g hg => hk g hg.2.1 (hg.2.2.2 rfl)), fun e => (h.ty e).keep (fun g hg => ⟨hg.1, by rw [hs]; exact hg.2.1, hg.2.2⟩) (fun g hg => hk g hg.2.1 (hg.2.2.2 rfl)),
    fun _ => ⟨hx1, (hk _ (blk_lt hx2) hn).trans hx2⟩, fun _ => ⟨hy1, put4_at hy2 _⟩, h.ne⟩
end
/-- A table beside what lies in the blocks from lo to hi. -/
structure KdS (w0 W0 : World) (B lo hi tb rb nb mb sb : Nat) (ty nu : Value) (T0 T : List Kz) (vs : List Value) (W : World) : Prop where
  st : StV B W tb rb nb mb sb 0 ty nu T [] [] vs
  own : ∀ g, Own tb rb nb g → g < lo ∨ hi ≤ g
  keep : ∀ g, lo ≤ g → g < hi → W.heap[g]? = W0.heap[g]?
  size : hi ≤ W.heap.size
  bs : B ≤ W.heap.size
  below : Below w0.heap.size w0 W
  good : TabG (hasZ ([] : List NN)) 400 T
  pre : T0 <+: T
section
variable {w0 W0 W W' : World} {B lo hi tb rb nb mb sb : Nat} {ty nu : Value} {T0 T : List Kz} {vs : List Value}
theorem KdS.step (h : KdS w0 W0 B lo hi tb rb nb mb sb ty nu T0 T vs W) (hb : Below W.heap.size W W') : KdS w0 W0 B lo hi tb rb nb mb sb ty nu T0 T vs W' :=
  ⟨h.st.below hb, h.own, fun g h1 h2 => (hb.block g (Nat.lt_of_lt_of_le h2 h.size)).trans (h.keep g h1 h2), Nat.le_trans h.size hb.size, Nat.le_trans h.bs hb.size, h.below.trans (hb.mono h.below.size), h.good, h.pre⟩
theorem KdS.lt (h : KdS w0 W0 B lo hi tb rb nb mb sb ty nu T0 T vs W) {g : Nat} (hg : Own tb rb nb g) : g < W.heap.size := h.st.tab.lt hg
/-- A type of those blocks, or of new ones, is added. -/
theorem KdS.add (h : KdS w0 W0 B lo hi tb rb nb mb sb ty nu T0 T vs W) (hw : w0.heap.size ≤ B) {Wn : World} (hn : Below W.heap.size W Wn) {t : Tz} (hf : fitZ t = true) (hs : shortZ t = true) {S : Nat → Prop} {c : C4} (hV : TzV Wn S t c) (hS : ∀ g, S g → (lo ≤ g ∧ g < hi) ∨ (W.heap.size ≤ g ∧ g < Wn.heap.size))
    {i e : Nat} {T' : List Kz} (hq : addK (hasZ ([] : List NN)) T t = (i, e, T')) (hg : TabG (hasZ ([] : List NN)) 400 T') (hp : T <+: T') :
    Calls Try.prog 11 #[.pointer (some ⟨tb, 0, none⟩), .agg #[.int .i64 c.k, .string c.n, .slice c.an c.ln c.cn, .slice c.ak c.lk c.ck]] Wn fun en w' => ∃ rb' nb' ty' nu', en = .returned (.tuple #[.int .i64 (i : Nat), .int .i64 (e : Nat)]) ∧ KdS w0 W0 B lo hi tb rb' nb' mb sb ty' nu' T0 T' vs w' := by
  have h2 := h.step hn
  have hsz := h.size
  refine (h2.st.adds2 h2.bs hf hs hV (fun g hg => ?_) hq).mono ?_
  · rcases hS g hg with h3 | h3
    · exact ⟨by have := h2.size; omega, fun ho => by rcases h.own g ho with h4 | h4 <;> omega⟩
    · exact ⟨h3.2, fun ho => by have := h.lt ho; omega⟩
  · rintro en w' ⟨rb', nb', ty', nu', rfl, s1, x1, k1, o1⟩
    refine ⟨rb', nb', ty', nu', rfl, s1, fun g ho => ?_, fun g h3 h4 => ?_, Nat.le_trans h2.size k1.size, Nat.le_trans h2.bs k1.size, h2.below.trans (x1.mono hw), hg, h.pre.trans hp⟩
    · rcases o1 g ho with h3 | h3
      · exact h.own g h3
      · have := h2.size; exact .inr (by omega)
    · exact (k1.block g (by have := h2.size; omega) (fun ho => by rcases h.own g ho with h5 | h5 <;> omega)).trans (h2.keep g h3 h4)
theorem KdS.opt (h : KdS w0 W0 B lo hi tb rb nb mb sb ty nu T0 T vs W) (hw : w0.heap.size ≤ B) {k : Nat} (hk : k < T.length) {i e : Nat} {T' : List Kz} (hq : numK T (optK k) = (i, e, T')) :
    Calls Try.prog 12 #[.pointer (some ⟨tb, 0, none⟩), .int .i64 (k : Nat)] W fun en w' => ∃ rb' nb' ty' nu', en = .returned (.tuple #[.int .i64 (i : Nat), .int .i64 (e : Nat)]) ∧ StV B w' tb rb' nb' mb sb 0 ty' nu' T' [] [] vs ∧ (∀ g, Own tb rb' nb' g → g < lo ∨ hi ≤ g) ∧ (∀ g, lo ≤ g → g < hi → w'.heap[g]? = W0.heap[g]?) ∧ hi ≤ w'.heap.size ∧ B ≤ w'.heap.size ∧ Below w0.heap.size w0 w' := by
  have C := topt_any k W tb rb nb mb sb 0 ty nu T h.st.tab hk
  rw [hq] at C
  refine C.mono ?_
  rintro en w' ⟨rb', nb', ty', nu', rfl, ha⟩
  obtain ⟨h1, h2⟩ := h.st.add ha h.bs
  have hsz := h.size
  refine ⟨rb', nb', ty', nu', rfl, h1, fun g ho => ?_, fun g h3 h4 => ?_, Nat.le_trans h.size ha.keeps.size, Nat.le_trans h.bs ha.keeps.size, h.below.trans (h2.mono hw)⟩
  · rcases ha.grew.own g ho with h3 | h3
    · exact h.own g h3
    · exact .inr (by omega)
  · exact (ha.keeps.block g (by omega) (fun ho => by rcases h.own g ho with h5 | h5 <;> omega)).trans (h.keep g h3 h4)
theorem KdS.le (h : KdS w0 W0 B lo hi tb rb nb mb sb ty nu T0 T vs W) {a b : Nat} (ha : a < T.length) (hb : b < T.length) :
    Calls Try.prog 13 #[.pointer (some ⟨tb, 0, none⟩), .int .i64 (a : Nat), .int .i64 (b : Nat)] W fun e w' => ∃ n : Nat, e = .returned (.tuple #[.bool (fitT T a b), .int .i64 (n : Nat)]) ∧ KdS w0 W0 B lo hi tb rb nb mb sb ty nu T0 T vs w' := by
  refine (h.st.le (nice_op h.good) ha hb).mono ?_
  rintro e w' ⟨rfl, hb'⟩
  rw [le_fit (nice_of h.good) ha hb]
  exact ⟨_, rfl, h.step hb'⟩
end
theorem new_good : TabG (hasZ ([] : List NN)) 400 [⟨2, [], [], []⟩] := by
  have h := (addK_g (has := hasZ ([] : List NN)) TabG.nil (t := zI) ⟨rfl, by decide⟩).2.1
  exact h
end Sp
end Go.Proofs.Yteooafgdmpbjeab
namespace Go.Proofs.Yteooafgdmpbjeab
open Go.RowKit
namespace Sp
open Sc
set_option maxRecDepth 100000
theorem cells_kid {w : World} {S : Nat → Prop} {ak : Option Addr} {us : List C4} (h : RowV w S ak 4 (us.map C4.cells)) (k : Nat) (hk : k < us.length) :
    ∃ g o, ak = some ⟨g, o, none⟩ ∧ S g ∧ ∀ W : World, W.heap[g]? = w.heap[g]? → W.cell? ⟨g, o + k * 4, none⟩ = some (.int .i64 us[k].k) ∧ W.cell? ⟨g, o + k * 4 + 1, none⟩ = some (.string us[k].n) ∧
      W.cell? ⟨g, o + k * 4 + 2, none⟩ = some (.slice us[k].an us[k].ln us[k].cn) ∧ W.cell? ⟨g, o + k * 4 + 3, none⟩ = some (.slice us[k].ak us[k].lk us[k].ck) := by
  rcases h with h | ⟨g, o, ha, hg, hc⟩
  · rw [List.map_eq_nil_iff] at h; rw [h] at hk; cases hk
  · refine ⟨g, o, ha, hg, fun W hW => ?_⟩
    have a := fun j v hv => (World.cell?_of_block (a := ⟨g, o + k * 4 + j, none⟩) hW).trans (hc k (by simpa using hk) j v (by simpa using hv))
    exact ⟨a 0 _ rfl, a 1 _ rfl, a 2 _ rfl, a 3 _ rfl⟩
end Sp
end Go.Proofs.Yteooafgdmpbjeab
namespace Go.Proofs.Yteooafgdmpbjeab
namespace Sp
open Sc
theorem fitZs_append : ∀ a b : List Tz, fitZs (a ++ b) = (fitZs a && fitZs b)
  | [], b => by simp [fitZs]
  | t :: a, b => by simp only [List.cons_append, fitZs, fitZs_append a b, Bool.and_assoc]
theorem fit_mk {k : Int} {nm : List UInt8} {ns : List (List UInt8)} {ks : List Tz} (h1 : nm.length ≤ 100) (h2 : ns.length ≤ 100) (h3 : ∀ n ∈ ns, n.length ≤ 100) (h4 : ks.length ≤ 100) (h5 : fitZs ks = true) : fitZ (.mk k nm ns ks) = true := by
  rw [fitZ, h5]
  simp only [Bool.and_eq_true, decide_eq_true_eq, List.all_eq_true]
  unfold maxLen
  exact ⟨⟨by omega, ⟨by omega, fun n hn => by have := h3 n hn; omega⟩, by omega⟩, trivial⟩
theorem nameL_len (n : Int) : (nameL n).length ≤ 100 := by
  unfold nameL
  have h : 0 ≤ n % 7 ∧ n % 7 < 7 := by omega
  obtain ⟨k, hk⟩ : ∃ k : Nat, n % 7 = k := ⟨(n % 7).toNat, by omega⟩
  rw [hk]
  have hk7 : k < 7 := by omega
  match k, hk7 with
  | 0, _ => decide
  | 1, _ => decide
  | 2, _ => decide
  | 3, _ => decide
  | 4, _ => decide
  | 5, _ => decide
  | 6, _ => decide
theorem fldN_len (ns : List Int) (i : Nat) : (fldN ns i).length ≤ 100 := by
  unfold fldN
  split
  · exact nameL_len _
  · decide
/-- A record's, a union's parts: few, and such as memory can hold. -/
structure FitR (t : Tz) (i : Nat) : Prop where
  form : ∃ k ms us, t = .mk k [] ms us ∧ ms.length = us.length ∧ ms.length ≤ i ∧ (∀ n ∈ ms, n.length ≤ 100) ∧ fitZs us = true
theorem FitR.put {t x : Tz} {i : Nat} {n : List UInt8} (h : FitR t i) (hn : n.length ≤ 100) (hx : fitZ x = true) : FitR (putT n x t) (i + 1) := by
  obtain ⟨k, ms, us, rfl, h1, h2, h3, h4⟩ := h
  rw [putT]
  split
  · exact ⟨k, ms, us, rfl, h1, by omega, h3, h4⟩
  · have hp := posT_le ms n
    have e := List.take_append_drop (posT ms n) us
    have k1 := fitZs_append (us.take (posT ms n)) (us.drop (posT ms n))
    rw [e, h4] at k1
    have k2 := k1.symm
    rw [Bool.and_eq_true] at k2
    refine ⟨k, _, _, rfl, by simp; omega, by simp; omega, fun m hm => ?_, ?_⟩
    · simp only [List.mem_append, List.mem_singleton] at hm
      rcases hm with (hm | rfl) | hm
      · exact h3 m (List.mem_of_mem_take hm)
      · exact hn
      · exact h3 m (List.mem_of_mem_drop hm)
    · rw [fitZs_append, fitZs_append, k2.1, k2.2]; simp [fitZs, hx]
theorem FitR.fit {t : Tz} {i : Nat} (h : FitR t i) (hi : i ≤ 100) : fitZ t = true := by
  obtain ⟨k, ms, us, rfl, h1, h2, h3, h4⟩ := h
  exact fit_mk (by simp) (by omega) h3 (by omega) h4
theorem treeR_fit (names : List (List UInt8)) (hn : ∀ n ∈ names, n.length ≤ 100) : ∀ (d : Nat) (r : Rw), fitZ (treeR names d r) = true
  | 0, .mk kd n ns ks => by
    have hl : (names.getD (n % names.length).toNat []).length ≤ 100 := by
      rw [List.getD]
      cases h : names[(n % names.length).toNat]? with
      | none => simp
      | some x => exact hn x (List.mem_of_getElem? h)
    rw [treeR]
    split
    · exact fit_mk hl (by simp) (fun n hn => by cases hn) (by simp) rfl
    · exact fit_mk (by simp) (by simp) (fun n hn => by cases hn) (by simp) rfl
  | d + 1, .mk kd n ns ks => by
    have hl : (names.getD (n % names.length).toNat []).length ≤ 100 := by
      rw [List.getD]
      cases h : names[(n % names.length).toNat]? with
      | none => simp
      | some x => exact hn x (List.mem_of_getElem? h)
    have h1 := topK_rng names.length (d + 1) kd
    obtain ⟨k, hk⟩ : ∃ k, topK names.length (d + 1) kd = k := ⟨_, rfl⟩
    have ih := fun r => treeR_fit names hn d r
    rw [hk] at h1
    by_cases h9 : k = 9
    · rw [treeR_name _ _ _ _ _ _ (hk.trans h9)]
      exact fit_mk hl (by simp) (fun n hn => by cases hn) (by simp) rfl
    · by_cases h3 : k ≤ 3
      · rw [treeR_leaf _ _ _ _ _ _ (by rw [hk]; exact h3)]
        exact fit_mk (by simp) (by simp) (fun n hn => by cases hn) (by simp) rfl
      · by_cases h6 : k ≤ 6
        · rw [treeR_kid _ _ _ _ _ _ k hk (by omega)]
          split
          · exact ih _
          · exact fit_mk (by simp) (by simp) (fun n hn => by cases hn) (by simp) (by rw [fitZs, ih]; rfl)
        · rw [treeR_recT _ _ _ _ _ _ k hk (by omega)]
          have hf : fldM k ns ≤ 4 := by unfold fldM; split <;> omega
          have key : ∀ i, FitR (recT names d kd n ns ks k i) i := by
            intro i
            induction i with
            | zero => exact ⟨k, [], [], rfl, rfl, Nat.le_refl _, (fun n hn => by cases hn), rfl⟩
            | succ i ihh => rw [recT_succ]; exact ihh.put (fldN_len ns i) (ih _)
          exact (key (fldM k ns)).fit (by omega)
end Sp
end Go.Proofs.Yteooafgdmpbjeab
namespace Go.Proofs.Yteooafgdmpbjeab
namespace Sp
open Sc
theorem shortZs_append : ∀ a b : List Tz, shortZs (a ++ b) = (shortZs a && shortZs b)
  | [], b => by simp [shortZs]
  | t :: a, b => by simp only [List.cons_append, shortZs, shortZs_append a b, Bool.and_assoc]
theorem short_mk {k : Int} {nm : List UInt8} {ns : List (List UInt8)} {ks : List Tz} (h1 : nm.length ≤ 100) (_h2 : ns.length ≤ 100) (h3 : ∀ n ∈ ns, n.length ≤ 100) (_h4 : ks.length ≤ 100) (h5 : shortZs ks = true) : shortZ (.mk k nm ns ks) = true := by
  rw [shortZ, h5]
  simp only [Bool.and_eq_true, decide_eq_true_eq, List.all_eq_true]
  exact ⟨⟨by omega, fun n hn => by have := h3 n hn; omega⟩, trivial⟩
/-- A record's, a union's parts: few, and such as memory can hold. -/
structure ShoR (t : Tz) (i : Nat) : Prop where
  form : ∃ k ms us, t = .mk k [] ms us ∧ ms.length = us.length ∧ ms.length ≤ i ∧ (∀ n ∈ ms, n.length ≤ 100) ∧ shortZs us = true
theorem ShoR.put {t x : Tz} {i : Nat} {n : List UInt8} (h : ShoR t i) (hn : n.length ≤ 100) (hx : shortZ x = true) : ShoR (putT n x t) (i + 1) := by
  obtain ⟨k, ms, us, rfl, h1, h2, h3, h4⟩ := h
  rw [putT]
  split
  · exact ⟨k, ms, us, rfl, h1, by omega, h3, h4⟩
  · have hp := posT_le ms n
    have e := List.take_append_drop (posT ms n) us
    have k1 := shortZs_append (us.take (posT ms n)) (us.drop (posT ms n))
    rw [e, h4] at k1
    have k2 := k1.symm
    rw [Bool.and_eq_true] at k2
    refine ⟨k, _, _, rfl, by simp; omega, by simp; omega, fun m hm => ?_, ?_⟩
    · simp only [List.mem_append, List.mem_singleton] at hm
      rcases hm with (hm | rfl) | hm
      · exact h3 m (List.mem_of_mem_take hm)
      · exact hn
      · exact h3 m (List.mem_of_mem_drop hm)
    · rw [shortZs_append, shortZs_append, k2.1, k2.2]; simp [shortZs, hx]
theorem ShoR.short {t : Tz} {i : Nat} (h : ShoR t i) (hi : i ≤ 100) : shortZ t = true := by
  obtain ⟨k, ms, us, rfl, h1, h2, h3, h4⟩ := h
  exact short_mk (by simp) (by omega) h3 (by omega) h4
theorem treeR_short (names : List (List UInt8)) (hn : ∀ n ∈ names, n.length ≤ 100) : ∀ (d : Nat) (r : Rw), shortZ (treeR names d r) = true
  | 0, .mk kd n ns ks => by
    have hl : (names.getD (n % names.length).toNat []).length ≤ 100 := by
      rw [List.getD]
      cases h : names[(n % names.length).toNat]? with
      | none => simp
      | some x => exact hn x (List.mem_of_getElem? h)
    rw [treeR]
    split
    · exact short_mk hl (by simp) (fun n hn => by cases hn) (by simp) rfl
    · exact short_mk (by simp) (by simp) (fun n hn => by cases hn) (by simp) rfl
  | d + 1, .mk kd n ns ks => by
    have hl : (names.getD (n % names.length).toNat []).length ≤ 100 := by
      rw [List.getD]
      cases h : names[(n % names.length).toNat]? with
      | none => simp
      | some x => exact hn x (List.mem_of_getElem? h)
    have h1 := topK_rng names.length (d + 1) kd
    obtain ⟨k, hk⟩ : ∃ k, topK names.length (d + 1) kd = k := ⟨_, rfl⟩
    have ih := fun r => treeR_short names hn d r
    rw [hk] at h1
    by_cases h9 : k = 9
    · rw [treeR_name _ _ _ _ _ _ (hk.trans h9)]
      exact short_mk hl (by simp) (fun n hn => by cases hn) (by simp) rfl
    · by_cases h3 : k ≤ 3
      · rw [treeR_leaf _ _ _ _ _ _ (by rw [hk]; exact h3)]
        exact short_mk (by simp) (by simp) (fun n hn => by cases hn) (by simp) rfl
      · by_cases h6 : k ≤ 6
        · rw [treeR_kid _ _ _ _ _ _ k hk (by omega)]
          split
          · exact ih _
          · exact short_mk (by simp) (by simp) (fun n hn => by cases hn) (by simp) (by rw [shortZs, ih]; rfl)
        · rw [treeR_recT _ _ _ _ _ _ k hk (by omega)]
          have hf : fldM k ns ≤ 4 := by unfold fldM; split <;> omega
          have key : ∀ i, ShoR (recT names d kd n ns ks k i) i := by
            intro i
            induction i with
            | zero => exact ⟨k, [], [], rfl, rfl, Nat.le_refl _, (fun n hn => by cases hn), rfl⟩
            | succ i ihh => rw [recT_succ]; exact ihh.put (fldN_len ns i) (ih _)
          exact (key (fldM k ns)).short (by omega)
end Sp
end Go.Proofs.Yteooafgdmpbjeab
