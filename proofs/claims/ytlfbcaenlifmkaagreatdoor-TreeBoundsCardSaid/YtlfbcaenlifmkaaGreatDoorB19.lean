/- Nodes and templates in memory: what is finished, what is open; who owns which block is told by a colour. -/
import Derived.Test.YtlfbcaenlifmkaaGreatDoorB12
import Derived.Laws.OwnMore
namespace Go.Proofs.YtlfbcaenlifmkaaGreatDoor
open Go.RowKit
namespace Tr
open Sc
/-- What a variable of the type api.Node holds. -/
structure C9 where
  k : Int
  at_ : Nat
  s : ByteArray
  name : ByteArray
  pa : Option Addr
  pl : Nat
  pc : Nat
  ba : Option Addr
  bl : Nat
  bc : Nat
  ea : Option Addr
  el : Nat
  ec : Nat
  h : Bool
  ca : Option Addr
  cl : Nat
  cc : Nat
deriving Inhabited
def C9.cells (c : C9) : List Value := [.int .i64 c.k, .int .i64 c.at_, .string c.s, .string c.name, .slice c.pa c.pl c.pc, .slice c.ba c.bl c.bc, .slice c.ea c.el c.ec, .bool c.h, .slice c.ca c.cl c.cc]
def C9.val (c : C9) : Value := .agg #[.int .i64 c.k, .int .i64 c.at_, .string c.s, .string c.name, .slice c.pa c.pl c.pc, .slice c.ba c.bl c.bc, .slice c.ea c.el c.ec, .bool c.h, .slice c.ca c.cl c.cc]
theorem C9.one (c : C9) : ∀ v ∈ c.cells, v.oneCell' = true := by
  intro v hv; simp [C9.cells] at hv; rcases hv with rfl | rfl | rfl | rfl | rfl | rfl | rfl | rfl | rfl <;> rfl
def enc9 (y : Nd × C9) : List Value := y.2.cells
/-- A case: its tag, its nodes, where they lie. -/
structure CsU where
  tag : List UInt8
  a : Option Addr
  c : Nat
  l : List (Nd × C9)
def CsU.cells (u : CsU) : List Value := [str u.tag, .slice u.a u.l.length u.c]
def CsU.is (u : CsU) : List UInt8 × List Nd := (u.tag, u.l.map (·.1))
/-- A finished node lies at these nine cells; all that it leads to lies in blocks of S. -/
inductive NdV (w : World) (S : Nat → Prop) : Nd → C9 → Prop where
  | mk (d : Nd) (x : C9) (hk : x.k = d.kind) (ht : x.at_ = d.at_) (hs : x.s = ⟨d.s.toArray⟩) (hn : x.name = ⟨d.name.toArray⟩) (hh : x.h = d.hasElse)
      (us : List CU) (hp : PipeV w S d.pipe x.pa us) (hpl : x.pl = d.pipe.length)
      (bs : List (Nd × C9)) (hb : bs.map (·.1) = d.body) (hbl : x.bl = bs.length) (hbc : Cells w S x.ba (bs.flatMap enc9)) (hbu : ∀ y, y ∈ bs → NdV w S y.1 y.2)
      (es : List (Nd × C9)) (he : es.map (·.1) = d.els) (hel : x.el = es.length) (hec : Cells w S x.ea (es.flatMap enc9)) (heu : ∀ y, y ∈ es → NdV w S y.1 y.2)
      (cs : List CsU) (hc : cs.map CsU.is = d.cases) (hcl : x.cl = cs.length) (hcc : Cells w S x.ca (cs.flatMap CsU.cells)) (hcb : ∀ u, u ∈ cs → Cells w S u.a (u.l.flatMap enc9)) (hcu : ∀ u, u ∈ cs → ∀ y, y ∈ u.l → NdV w S y.1 y.2) :
      NdV w S d x
theorem NdV.keep {w w' : World} {S S' : Nat → Prop} {t : Nd} {c : C9} (h : NdV w S t c) (hS : ∀ g, S g → S' g) (hk : ∀ g, S g → w'.heap[g]? = w.heap[g]?) : NdV w' S' t c := by
  induction h with
  | mk d x k1 k2 k3 k4 k5 us hp hpl bs hb hbl hbc hbu es he hel hec heu cs hc hcl hcc hcb hcu ih1 ih2 ih3 =>
    exact .mk d x k1 k2 k3 k4 k5 us (hp.keep hS hk) hpl bs hb hbl (hbc.keep hS hk) ih1 es he hel (hec.keep hS hk) ih2 cs hc hcl (hcc.keep hS hk) (fun u hu => (hcb u hu).keep hS hk) ih3
/-- The blocks that are made since, and are nobody's: nothing writes them. -/
def Fz (base : Nat) (w : World) (c : Nat → Nat) (g : Nat) : Prop := base ≤ g ∧ g < w.heap.size ∧ c g = 0
/-- A row of finished nodes; the block that it may grow in has a colour. -/
structure Row9 (w : World) (base : Nat) (c : Nat → Nat) (q : Nat) (v : Value) (l : List (Nd × C9)) : Prop where
  own : w.ownsRow base 56 9 v l.length (l.flatMap enc9)
  col : ∀ g, v.ownBlock = some g → c g = q
  el : ∀ y ∈ l, NdV w (Fz base w c) y.1 y.2
/-- Blocks of some colours stay. -/
structure Kp (base : Nat) (w : World) (c : Nat → Nat) (w' : World) (c' : Nat → Nat) (Q : Nat → Prop) : Prop where
  size : w.heap.size ≤ w'.heap.size
  blk : ∀ g, base ≤ g → g < w.heap.size → Q (c g) → w'.heap[g]? = w.heap[g]? ∧ c' g = c g
theorem ownsRow_same {w w' : World} {base : Nat} {e : TypeId} {size : Nat} {v : Value} {n : Nat} {xs : List Value} (h : w.ownsRow base e size v n xs) (hk : ∀ g, v.ownBlock = some g → w'.heap[g]? = w.heap[g]?) : w'.ownsRow base e size v n xs := by
  refine ⟨h.1, ?_⟩
  rcases h.2 with hn | ⟨g, cap, cur, rfl, h1, h2, h3⟩
  · exact .inl hn
  · exact .inr ⟨g, cap, cur, rfl, h1, (hk g rfl).trans h2, h3⟩
theorem Fz.in {base : Nat} {w w' : World} {c c' : Nat → Nat} {Q : Nat → Prop} (hk : Kp base w c w' c' Q) (h0 : Q 0) (g : Nat) (h : Fz base w c g) : Fz base w' c' g :=
  ⟨h.1, Nat.lt_of_lt_of_le h.2.1 hk.size, by rw [(hk.blk g h.1 h.2.1 (by rw [h.2.2]; exact h0)).2]; exact h.2.2⟩
theorem Fz.same {base : Nat} {w w' : World} {c c' : Nat → Nat} {Q : Nat → Prop} (hk : Kp base w c w' c' Q) (h0 : Q 0) (g : Nat) (h : Fz base w c g) : w'.heap[g]? = w.heap[g]? := (hk.blk g h.1 h.2.1 (by rw [h.2.2]; exact h0)).1
theorem Row9.keep {w w' : World} {base : Nat} {c c' : Nat → Nat} {Q : Nat → Prop} {q : Nat} {v : Value} {l : List (Nd × C9)} (h : Row9 w base c q v l) (hk : Kp base w c w' c' Q) (h0 : Q 0) (hq : Q q) : Row9 w' base c' q v l := by
  have hb := fun g hg => hk.blk g (h.own.lt g hg).1 (h.own.lt g hg).2 (by rw [h.col g hg]; exact hq)
  exact ⟨ownsRow_same h.own (fun g hg => (hb g hg).1), fun g hg => by rw [(hb g hg).2]; exact h.col g hg, fun y hy => (h.el y hy).keep (Fz.in hk h0) (Fz.same hk h0)⟩
/-- An open node at depth i: its rows may grow. -/
structure OpnV (w : World) (base : Nat) (c : Nat → Nat) (i : Nat) (d : Nd) (x : C9) : Prop where
  hk : x.k = d.kind
  ht : x.at_ = d.at_
  hs : x.s = ⟨d.s.toArray⟩
  hn : x.name = ⟨d.name.toArray⟩
  hh : x.h = d.hasElse
  pipe : ∃ us, PipeV w (Fz base w c) d.pipe x.pa us ∧ x.pl = d.pipe.length
  body : ∃ bs : List (Nd × C9), bs.map (·.1) = d.body ∧ x.bl = bs.length ∧ Row9 w base c (5 * i + 3) (.slice x.ba x.bl x.bc) bs
  els : ∃ es : List (Nd × C9), es.map (·.1) = d.els ∧ x.el = es.length ∧ Row9 w base c (5 * i + 4) (.slice x.ea x.el x.ec) es
  cases : ∃ cs : List CsU, cs.map CsU.is = d.cases ∧ x.cl = cs.length ∧ w.ownsRow base 59 2 (.slice x.ca x.cl x.cc) cs.length (cs.flatMap CsU.cells) ∧ (∀ g, (Value.slice x.ca x.cl x.cc).ownBlock = some g → c g = 5 * i + 5) ∧
    (∀ u ∈ cs.dropLast, Cells w (Fz base w c) u.a (u.l.flatMap enc9) ∧ ∀ y ∈ u.l, NdV w (Fz base w c) y.1 y.2) ∧ (∀ u, cs.getLast? = some u → Row9 w base c (5 * i + 6) (.slice u.a u.l.length u.c) u.l)
theorem OpnV.keep {w w' : World} {base : Nat} {c c' : Nat → Nat} {Q : Nat → Prop} {i : Nat} {d : Nd} {x : C9} (h : OpnV w base c i d x) (hk : Kp base w c w' c' Q) (h0 : Q 0) (hq : ∀ k, 3 ≤ k → k ≤ 6 → Q (5 * i + k)) : OpnV w' base c' i d x := by
  refine ⟨h.hk, h.ht, h.hs, h.hn, h.hh, ?_, ?_, ?_, ?_⟩
  · obtain ⟨us, h1, h2⟩ := h.pipe; exact ⟨us, h1.keep (Fz.in hk h0) (Fz.same hk h0), h2⟩
  · obtain ⟨bs, h1, h2, h3⟩ := h.body; exact ⟨bs, h1, h2, h3.keep hk h0 (hq 3 (by omega) (by omega))⟩
  · obtain ⟨bs, h1, h2, h3⟩ := h.els; exact ⟨bs, h1, h2, h3.keep hk h0 (hq 4 (by omega) (by omega))⟩
  · obtain ⟨cs, h1, h2, h3, h4, h5, h6⟩ := h.cases
    have hb := fun g hg => hk.blk g (h3.lt g hg).1 (h3.lt g hg).2 (by rw [h4 g hg]; exact hq 5 (by omega) (by omega))
    exact ⟨cs, h1, h2, ownsRow_same h3 (fun g hg => (hb g hg).1), fun g hg => by rw [(hb g hg).2]; exact h4 g hg, fun u hu => ⟨(h5 u hu).1.keep (Fz.in hk h0) (Fz.same hk h0), fun y hy => ((h5 u hu).2 y hy).keep (Fz.in hk h0) (Fz.same hk h0)⟩,
      fun u hu => (h6 u hu).keep hk h0 (hq 6 (by omega) (by omega))⟩
end Tr
end Go.Proofs.YtlfbcaenlifmkaaGreatDoor
