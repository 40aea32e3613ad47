/- The builder in memory; what stays, and what grows, when a node is put into the innermost block. -/
import Derived.Test.YtlfbcaenlifmkaaGreatDoorB33
namespace Go.Proofs.YtlfbcaenlifmkaaGreatDoor
open Go.RowKit
namespace Tr
open Sc Sh Sp
/-- A defined template: its name, its nodes, where they lie. -/
structure TpU where
  name : List UInt8
  a : Option Addr
  c : Nat
  l : List (Nd × C9)
def TpU.cells (u : TpU) : List Value := [str u.name, .slice u.a u.l.length u.c]
def TpU.is (u : TpU) : List UInt8 × List Nd := (u.name, u.l.map (·.1))
def TpV (w : World) (S : Nat → Prop) (u : TpU) : Prop := Cells w S u.a (u.l.flatMap enc9) ∧ ∀ y ∈ u.l, NdV w S y.1 y.2
theorem TpV.keep {w w' : World} {S S' : Nat → Prop} {u : TpU} (h : TpV w S u) (hS : ∀ g, S g → S' g) (hk : ∀ g, S g → w'.heap[g]? = w.heap[g]?) : TpV w' S' u := ⟨h.1.keep hS hk, fun y hy => (h.2 y hy).keep hS hk⟩
/-- The builder: its block, the row of what is open (the innermost last), the row of what is defined. -/
structure BV (w : World) (base bb : Nat) (b : B) (c : Nat → Nat) (oa oc : Nat) (ys : List (Nd × C9)) (x : C9) (da : Option Addr) (dc : Nat) (ds : List TpU) : Prop where
  le : base ≤ w.heap.size
  blk : w.heap[bb]? = some (.cells #[.slice (some ⟨oa, 0, none⟩) (ys.length + 1) oc, .slice da ds.length dc] 97 (0, 0))
  bbase : base ≤ bb
  bcol : c bb = 1
  own : w.ownsRow base 143 9 (.slice (some ⟨oa, 0, none⟩) (ys.length + 1) oc) (ys.length + 1) (ys.flatMap enc9 ++ x.cells)
  ocol : c oa = 2
  opens : ys.map (·.1) = b.outer.reverse
  nodes : ∀ i (h : i < ys.length), OpnV w base c i ys[i].1 ys[i].2
  last : OpnV w base c ys.length b.inner x
  down : w.ownsRow base 52 2 (.slice da ds.length dc) ds.length (ds.flatMap TpU.cells)
  dcol : ∀ g, (Value.slice da ds.length dc).ownBlock = some g → c g = 7
  dis : ds.map TpU.is = b.defined
  dv : ∀ u ∈ ds, TpV w (Fz base w c) u
  new : ∀ g, w.heap.size ≤ g → c g = 0
def BVE (w : World) (base bb : Nat) (b : B) : Prop := ∃ c oa oc ys x da dc ds, BV w base bb b c oa oc ys x da dc ds
section
variable {w w' : World} {base bb : Nat} {b : B} {c c' : Nat → Nat} {oa oc : Nat} {ys : List (Nd × C9)} {x x' : C9} {da : Option Addr} {dc : Nat} {ds : List TpU}
theorem BV.bblt (h : BV w base bb b c oa oc ys x da dc ds) : bb < w.heap.size := (Array.getElem?_eq_some_iff.1 h.blk).1
theorem BV.olt (h : BV w base bb b c oa oc ys x da dc ds) : base ≤ oa ∧ oa < w.heap.size := h.own.lt oa rfl
theorem BV.depth (h : BV w base bb b c oa oc ys x da dc ds) : ys.length = b.outer.length := by have := congrArg List.length h.opens; simpa using this
theorem enc9_len (ys : List (Nd × C9)) : (ys.flatMap enc9).length = ys.length * 9 := by
  induction ys with
  | nil => rfl
  | cons y ys ih => rw [List.flatMap_cons, List.length_append, ih, List.length_cons]; show 9 + _ = _; omega
/-- Only new memory is made. -/
theorem Kp.below {Q : Nat → Prop} (hb : Below w.heap.size w w') : Kp base w c w' c Q := ⟨hb.size, fun g _ hg _ => ⟨hb.block g hg, rfl⟩⟩
theorem Fz.belowIn (hb : Below w.heap.size w w') (g : Nat) (h : Fz base w c g) : Fz base w' c g := ⟨h.1, Nat.lt_of_lt_of_le h.2.1 hb.size, h.2.2⟩
theorem BV.below (h : BV w base bb b c oa oc ys x da dc ds) (hb : Below w.heap.size w w') : BV w' base bb b c oa oc ys x da dc ds := by
  have hk : Kp base w c w' c (fun _ => True) := Kp.below hb
  exact ⟨Nat.le_trans h.le hb.size, (hb.block _ h.bblt).trans h.blk, h.bbase, h.bcol, ownsRow_same h.own (fun g hg => hb.block g (h.own.lt g hg).2), h.ocol, h.opens, fun i hi => (h.nodes i hi).keep hk trivial (fun _ _ _ => trivial), h.last.keep hk trivial (fun _ _ _ => trivial),
    ownsRow_same h.down (fun g hg => hb.block g (h.down.lt g hg).2), h.dcol, h.dis, fun u hu => (h.dv u hu).keep (Fz.in hk trivial) (Fz.same hk trivial), fun g hg => h.new g (Nat.le_trans hb.size hg)⟩
/-- The innermost node's cells, in the row of what is open. -/
theorem BV.cell (h : BV w base bb b c oa oc ys x da dc ds) (j : Nat) (hj : j < 9) : w.cell? ⟨oa, ys.length * 9 + j, none⟩ = x.cells[j]? := by
  rw [h.own.cellAt (ys.length * 9 + j) (by omega), List.getElem?_append_right (by rw [enc9_len]; omega), enc9_len, Nat.add_sub_cancel_left]
theorem BV.frz (h : BV w base bb b c oa oc ys x da dc ds) (j : Nat) : w.frozen? ⟨oa, j, none⟩ = false := h.own.frozenAt j
theorem own_less {w : World} {base g k n m sz : Nat} {e : TypeId} {xs : List Value} (h : w.ownsRow base e sz (.slice (some ⟨g, 0, none⟩) n k) n xs) (hm : m ≤ n) (_h0 : 0 < sz) : w.ownsRow base e sz (.slice (some ⟨g, 0, none⟩) m k) m (xs.take (m * sz)) := by
  have hms : m * sz ≤ n * sz := Nat.mul_le_mul_right _ hm
  refine ⟨by rw [List.length_take, h.1]; omega, ?_⟩
  rcases h.2 with ⟨h1, _⟩ | ⟨g', cap, cur, h1, hb, hg, hn, hcm, hcs, ht⟩
  · cases h1
  · cases h1
    exact .inr ⟨g, k, cur, rfl, hb, hg, by omega, hcm, hcs, by rw [← ht, List.take_take, Nat.min_eq_left hms]⟩
theorem own_cap {w : World} {base g k n sz : Nat} {e : TypeId} {xs : List Value} (h : w.ownsRow base e sz (.slice (some ⟨g, 0, none⟩) n k) n xs) : n ≤ k := by
  rcases h.2 with ⟨h1, _⟩ | ⟨g', cap, cur, h1, hb, hg, hn, hcm, hcs, ht⟩
  · cases h1
  · cases h1; exact hn
theorem Only.blk_same {rb b : Nat} {w w' : World} (h : Only rb w w') (hn : b ≠ rb) (hb : b < w.heap.size) : w'.heap[b]? = w.heap[b]? := h.block b hb (fun e => hn (by cases e; rfl))
/-- Everything but what has some colours stays. -/
theorem BV.rest {Q : Nat → Prop} (h : BV w base bb b c oa oc ys x da dc ds) (hk : Kp base w c w' c' Q) (h0 : Q 0) (h1 : Q 1) (h7 : Q 7) (hi : ∀ i k, i < ys.length → 3 ≤ k → k ≤ 6 → Q (5 * i + k)) :
    w'.heap[bb]? = w.heap[bb]? ∧ c' bb = 1 ∧ (∀ i (h : i < ys.length), OpnV w' base c' i ys[i].1 ys[i].2) ∧ w'.ownsRow base 52 2 (.slice da ds.length dc) ds.length (ds.flatMap TpU.cells) ∧ (∀ g, (Value.slice da ds.length dc).ownBlock = some g → c' g = 7) ∧ (∀ u ∈ ds, TpV w' (Fz base w' c') u) := by
  have hb := hk.blk bb h.bbase h.bblt (by rw [h.bcol]; exact h1)
  have hd := fun g hg => hk.blk g (h.down.lt g hg).1 (h.down.lt g hg).2 (by rw [h.dcol g hg]; exact h7)
  exact ⟨hb.1, by rw [hb.2]; exact h.bcol, fun i hil => (h.nodes i hil).keep hk h0 (fun k k1 k2 => hi i k hil k1 k2), ownsRow_same h.down (fun g hg => (hd g hg).1), fun g hg => by rw [(hd g hg).2]; exact h.dcol g hg, fun u hu => (h.dv u hu).keep (Fz.in hk h0) (Fz.same hk h0)⟩
theorem set_cell {l m m' : List Value} {n j : Nat} {u : Value} (hl : l.length = n * 9) (hm : m.set j u = m') : (l ++ m).set (n * 9 + j) u = l ++ m' := by
  rw [List.set_append_right _ _ (by omega), hl, Nat.add_sub_cancel_left, hm]
/-- A cell of the innermost node is written, in the row of what is open. -/
theorem BV.own_set (h : BV w base bb b c oa oc ys x da dc ds) {j : Nat} {u : Value} (hs : w'.heap[oa]? = (w.setCell ⟨oa, ys.length * 9 + j, none⟩ u).heap[oa]?) (hx : x.cells.set j u = x'.cells) :
    w'.ownsRow base 143 9 (.slice (some ⟨oa, 0, none⟩) (ys.length + 1) oc) (ys.length + 1) (ys.flatMap enc9 ++ x'.cells) := by
  have h1 := (h.own.stored (ys.length * 9 + j) u).1
  rw [set_cell (enc9_len ys) hx] at h1
  exact ownsRow_same h1 (fun g hg => by cases hg; exact hs)
/-- A row of nodes grows by one. -/
theorem Row9.snoc {q : Nat} {v v' : Value} {l : List (Nd × C9)} {y : Nd × C9} (h : Row9 w base c q v l) (hown : w'.ownsRow base 56 9 v' (l.length + 1) (l.flatMap enc9 ++ y.2.cells)) (hcol : ∀ g, v'.ownBlock = some g → c' g = q)
    (hin : ∀ g, Fz base w c g → Fz base w' c' g) (hsame : ∀ g, Fz base w c g → w'.heap[g]? = w.heap[g]?) (hy : NdV w (Fz base w c) y.1 y.2) : Row9 w' base c' q v' (l ++ [y]) := by
  refine ⟨by simpa [List.flatMap_append, enc9] using hown, hcol, fun z hz => ?_⟩
  rcases List.mem_append.1 hz with hz | hz
  · exact (h.el z hz).keep hin hsame
  · rw [List.mem_singleton] at hz; subst hz; exact hy.keep hin hsame
/-- What is told of colours behind a row's growing, where it is stored in a block of colour r. -/
theorem PutW.kp {e : TypeId} {sz pb po n g k : Nat} {v : Value} {zs : List Value} (h : PutW base e sz pb po v n zs w w' g k) (q r : Nat) (hv : ∀ g, v.ownBlock = some g → c g = q) (hr : c pb = r) :
    Kp base w c w' (fun m => if m = g then q else c m) (fun m => m ≠ q ∧ m ≠ r) := by
  refine ⟨h.size, fun m _ hm hq => ⟨h.chg m hm (fun e => hq.2 (by rw [e]; exact hr)) (fun e => hq.1 (hv m e.symm)), ?_⟩⟩
  show (if m = g then q else c m) = c m
  rw [if_neg (fun e => ?_)]
  rcases h.new with hn | hn
  · exact hq.1 (by rw [e]; exact hv g hn)
  · omega
theorem PutW.fresh {e : TypeId} {sz pb po n g k : Nat} {v : Value} {zs : List Value} (h : PutW base e sz pb po v n zs w w' g k) (q : Nat) (hn : ∀ m, w.heap.size ≤ m → c m = 0) : ∀ m, w'.heap.size ≤ m → (if m = g then q else c m) = 0 := by
  intro m hm
  have := (h.own.lt g rfl).2
  rw [if_neg (by omega)]
  exact hn m (Nat.le_trans h.size hm)
/-- A node more in the innermost block's body. -/
theorem BV.put_body (h : BV w base bb b c oa oc ys x da dc ds) {y : Nd × C9} (hy : NdV w (Fz base w c) y.1 y.2) (he : b.inner.hasElse = false) (hc : b.inner.cases = []) {g k : Nat} {bs : List (Nd × C9)}
    (b1 : bs.map (·.1) = b.inner.body) (b2 : x.bl = bs.length) (b3 : Row9 w base c (5 * ys.length + 3) (.slice x.ba x.bl x.bc) bs)
    (hp : PutW base 56 9 oa (ys.length * 9 + 5) (.slice x.ba x.bl x.bc) x.bl (bs.flatMap enc9 ++ y.2.cells) w w' g k) : BVE w' base bb (b.putB y.1) := by
  have hkp := hp.kp (c := c) (5 * ys.length + 3) 2 b3.col h.ocol
  have hog : oa ≠ g := fun e => by
    rcases hp.new with hn | hn
    · have := b3.col g hn; rw [← e, h.ocol] at this; omega
    · have := h.olt.2; omega
  obtain ⟨r1, r2, r3, r4, r5, r6⟩ := h.rest hkp ⟨by omega, by omega⟩ ⟨by omega, by omega⟩ ⟨by omega, by omega⟩ (fun i k hi k1 k2 => ⟨by omega, by omega⟩)
  have hin := Fz.in hkp (⟨by omega, by omega⟩ : (0 : Nat) ≠ 5 * ys.length + 3 ∧ (0 : Nat) ≠ 2)
  have hsm := Fz.same hkp (⟨by omega, by omega⟩ : (0 : Nat) ≠ 5 * ys.length + 3 ∧ (0 : Nat) ≠ 2)
  refine ⟨fun m => if m = g then 5 * ys.length + 3 else c m, oa, oc, ys, { x with ba := some ⟨g, 0, none⟩, bl := x.bl + 1, bc := k }, da, dc, ds,
    ⟨Nat.le_trans h.le hp.size, r1.trans h.blk, h.bbase, r2, h.own_set hp.slot rfl, by show (if oa = g then _ else _) = _; rw [if_neg hog]; exact h.ocol, h.opens, r3, ?_, r4, r5, h.dis, r6, hp.fresh _ h.new⟩⟩
  have hl := h.last
  have hin' : (b.putB y.1).inner = .mk b.inner.kind b.inner.at_ b.inner.s b.inner.name b.inner.pipe (b.inner.body ++ [y.1]) b.inner.els b.inner.hasElse b.inner.cases := by
    unfold B.putB
    simp only
    revert he hc
    cases b.inner with
    | mk q a s nm p bd es hh cs => intro he hc; cases he; cases hc; rfl
  rw [hin']
  refine ⟨hl.hk, hl.ht, hl.hs, hl.hn, hl.hh, ?_, ⟨bs ++ [y], by simp [b1, Nd.body], by simp [b2], ?_⟩, ?_, ?_⟩
  · obtain ⟨us, h1, h2⟩ := hl.pipe; exact ⟨us, h1.keep hin hsm, h2⟩
  · have hown := hp.own
    rw [b2] at hown
    refine b3.snoc ?_ (fun m hm => ?_) hin hsm hy
    · rw [b2]; exact hown
    · cases hm; show (if g = g then _ else _) = _; rw [if_pos rfl]
  · obtain ⟨es, h1, h2, h3⟩ := hl.els; exact ⟨es, h1, h2, h3.keep hkp ⟨by omega, by omega⟩ ⟨by omega, by omega⟩⟩
  · obtain ⟨cs, h1, h2, h3, h4, h5, h6⟩ := hl.cases
    have hbk := fun m hm => hkp.blk m (h3.lt m hm).1 (h3.lt m hm).2 (by rw [h4 m hm]; exact ⟨by omega, by omega⟩)
    exact ⟨cs, h1, h2, ownsRow_same h3 (fun m hm => (hbk m hm).1), fun m hm => by rw [(hbk m hm).2]; exact h4 m hm, fun u hu => ⟨(h5 u hu).1.keep hin hsm, fun z hz => ((h5 u hu).2 z hz).keep hin hsm⟩, fun u hu => (h6 u hu).keep hkp ⟨by omega, by omega⟩ ⟨by omega, by omega⟩⟩
end
end Tr
end Go.Proofs.YtlfbcaenlifmkaaGreatDoor
