/- SubUnions: two unions in memory, each with a row of names and one of kids, while they grow side by side. -/
import Derived.Test.YteooafgdmpbjeabU50
import Derived.Test.YteooafgdmpbjeabU51
namespace Go.Proofs.Yteooafgdmpbjeab
open Go.RowKit
namespace Sp
open Sc
def cJ : C4 := ⟨2, ⟨#[]⟩, none, 0, 0, none, 0, 0⟩
theorem own_kpU {W wr : World} {base sz n : Nat} {e : TypeId} {v : Value} {xs : List Value} (h : W.ownsRow base e sz v n xs) (hk : ∀ g, v.ownBlock = some g → wr.heap[g]? = W.heap[g]?) : wr.ownsRow base e sz v n xs := by
  rcases h.2 with ⟨rfl, h0⟩ | ⟨g, cap, cur, rfl, hg, hc, hr⟩
  · exact ⟨h.1, .inl ⟨rfl, h0⟩⟩
  · exact ⟨h.1, .inr ⟨g, cap, cur, rfl, hg, (hk g rfl).trans hc, hr⟩⟩
theorem TwM.fresh {W0 : World} {B tb base : Nat} {q : Int} {c : Nat} {xn xk : Value} {ns ks nw kw : List Value} {x : Tw} {v : World} (h : TwM W0 B tb base q c xn xk ns ks nw kw true true true true true true x v) :
    (∀ g, x.an.ownBlock = some g → xn.ownBlock = some g ∨ W0.heap.size ≤ g) ∧ (∀ g, x.ak.ownBlock = some g → xk.ownBlock = some g ∨ W0.heap.size ≤ g) := ⟨h.sn.fresh rfl, h.sk.fresh rfl⟩
structure UnS (wr : World) (B xb yb : Nat) (A D : List Nat) (z : Tz) (xn xk yn yk : Value) (ks : List C4) : Prop where
  xat : wr.heap[xb]? = some (.cells #[.int .i64 8, .string ⟨#[]⟩, xn, xk] 31 (0, 0))
  yat : wr.heap[yb]? = some (.cells #[.int .i64 8, .string ⟨#[]⟩, yn, yk] 31 (0, 0))
  xnr : wr.ownsRow B 9 1 xn A.length (wdN A)
  xkr : wr.ownsRow B 31 4 xk A.length (A.flatMap fun _ => cJ.cells)
  ynr : wr.ownsRow B 9 1 yn D.length (wdN D)
  ykr : wr.ownsRow B 31 4 yk D.length (ks.flatMap C4.cells)
  kl : ks.length = D.length
  kv : ∀ i (h : i < ks.length), TzV wr (Free wr [xb, yb] [xn, xk, yn, yk]) z ks[i]
  a1 : ApartV xn xk
  a2 : ApartV yn yk
  a3 : ApartV xn yn
  a4 : ApartV xn yk
  a5 : ApartV xk yn
  a6 : ApartV xk yk
  xB : xb < B
  yB : yb < B
  ne : xb ≠ yb
section
variable {wr v : World} {B B0 xb yb k : Nat} {A D : List Nat} {z : Tz} {xn xk yn yk xn' xk' yn' yk' : Value} {ks : List C4} {c : C4}
theorem UnS.below {w' : World} (h : UnS wr B xb yb A D z xn xk yn yk ks) (hb : Below wr.heap.size wr w') : UnS w' B xb yb A D z xn xk yn yk ks :=
  ⟨(hb.block xb (Array.getElem?_eq_some_iff.1 h.xat).1).trans h.xat, (hb.block yb (Array.getElem?_eq_some_iff.1 h.yat).1).trans h.yat,
    own_kpU h.xnr (fun g e => hb.block g (h.xnr.lt g e).2), own_kpU h.xkr (fun g e => hb.block g (h.xkr.lt g e).2), own_kpU h.ynr (fun g e => hb.block g (h.ynr.lt g e).2), own_kpU h.ykr (fun g e => hb.block g (h.ykr.lt g e).2),
    h.kl, fun i hi => (h.kv i hi).keep (fun _ hg => ⟨Nat.lt_of_lt_of_le hg.1 hb.size, hg.2⟩) (fun g hg => hb.block g hg.1), h.a1, h.a2, h.a3, h.a4, h.a5, h.a6, h.xB, h.yB, h.ne⟩
theorem UnS.addX (h : UnS wr B xb yb A D z xn xk yn yk ks) (hD : TwD wr B0 xb B 8 A.length xn xk (wdN A ++ [.string ⟨#[letB k]⟩]) ((A.flatMap fun _ => cJ.cells) ++ cJ.cells) xn' xk' v)
    (hf : (∀ g, xn'.ownBlock = some g → xn.ownBlock = some g ∨ wr.heap.size ≤ g) ∧ (∀ g, xk'.ownBlock = some g → xk.ownBlock = some g ∨ wr.heap.size ≤ g)) : UnS v B xb yb (A ++ [k]) D z xn' xk' yn yk ks := by
  have l1 := h.xnr.lt; have l2 := h.xkr.lt; have l3 := h.ynr.lt; have l4 := h.ykr.lt
  have hx := h.xB; have hy := h.yB; have hs := hD.size
  have ylt := (Array.getElem?_eq_some_iff.1 h.yat).1
  have ky : v.heap[yb]? = wr.heap[yb]? := hD.far yb ylt (fun e => h.ne e.symm) (fun e => by have := (l1 _ e).1; omega) (fun e => by have := (l2 _ e).1; omega)
  have kn : ∀ g, yn.ownBlock = some g → v.heap[g]? = wr.heap[g]? := fun g e => hD.far g (l3 g e).2 (by have := (l3 g e).1; omega) (fun e2 => h.a3 g e2 e) (fun e2 => h.a5 g e2 e)
  have kk : ∀ g, yk.ownBlock = some g → v.heap[g]? = wr.heap[g]? := fun g e => hD.far g (l4 g e).2 (by have := (l4 g e).1; omega) (fun e2 => h.a4 g e2 e) (fun e2 => h.a6 g e2 e)
  have st : ∀ g, Free wr [xb, yb] [xn, xk, yn, yk] g → Free v [xb, yb] [xn', xk', yn, yk] g ∧ v.heap[g]? = wr.heap[g]? := fun g hg => by
    obtain ⟨g1, g2, g3⟩ := hg
    have gx : g ≠ xb := fun e => g2 (by simp [e])
    have n1 := g3 xn (by simp); have n2 := g3 xk (by simp); have n3 := g3 yn (by simp); have n4 := g3 yk (by simp)
    refine ⟨⟨by omega, g2, fun u hu => ?_⟩, hD.far g g1 gx n1 n2⟩
    simp only [List.mem_cons, List.not_mem_nil, or_false] at hu
    rcases hu with rfl | rfl | rfl | rfl
    · intro e; rcases hf.1 g e with e | e; exact n1 e; omega
    · intro e; rcases hf.2 g e with e | e; exact n2 e; omega
    · exact n3
    · exact n4
  refine ⟨hD.tat, ky.trans h.yat, ?_, ?_, own_kpU h.ynr kn, own_kpU h.ykr kk, h.kl, fun i hi => (h.kv i hi).keep (fun g hg => (st g hg).1) (fun g hg => (st g hg).2), hD.apart, h.a2,
    ApartV.app h.a3 hf.1 (fun g e => (l3 g e).2), ApartV.app h.a4 hf.1 (fun g e => (l4 g e).2), ApartV.app h.a5 hf.2 (fun g e => (l3 g e).2), ApartV.app h.a6 hf.2 (fun g e => (l4 g e).2), hx, hy, h.ne⟩
  · have := hD.names; rw [List.length_append, List.length_singleton]; simpa [wdN] using this
  · have := hD.kids; rw [List.length_append, List.length_singleton]; simpa using this
theorem UnS.addY (h : UnS wr B xb yb A D z xn xk yn yk ks) (hV : TzV wr (Free wr [xb, yb] [xn, xk, yn, yk]) z c) (hD : TwD wr B0 yb B 8 D.length yn yk (wdN D ++ [.string ⟨#[letB k]⟩]) ((ks.flatMap C4.cells) ++ c.cells) yn' yk' v)
    (hf : (∀ g, yn'.ownBlock = some g → yn.ownBlock = some g ∨ wr.heap.size ≤ g) ∧ (∀ g, yk'.ownBlock = some g → yk.ownBlock = some g ∨ wr.heap.size ≤ g)) : UnS v B xb yb A (D ++ [k]) z xn xk yn' yk' (ks ++ [c]) := by
  have l1 := h.xnr.lt; have l2 := h.xkr.lt; have l3 := h.ynr.lt; have l4 := h.ykr.lt
  have hx := h.xB; have hy := h.yB; have hs := hD.size
  have xlt := (Array.getElem?_eq_some_iff.1 h.xat).1
  have kx : v.heap[xb]? = wr.heap[xb]? := hD.far xb xlt h.ne (fun e => by have := (l3 _ e).1; omega) (fun e => by have := (l4 _ e).1; omega)
  have kn : ∀ g, xn.ownBlock = some g → v.heap[g]? = wr.heap[g]? := fun g e => hD.far g (l1 g e).2 (by have := (l1 g e).1; omega) (fun e2 => h.a3 g e e2) (fun e2 => h.a4 g e e2)
  have kk : ∀ g, xk.ownBlock = some g → v.heap[g]? = wr.heap[g]? := fun g e => hD.far g (l2 g e).2 (by have := (l2 g e).1; omega) (fun e2 => h.a5 g e e2) (fun e2 => h.a6 g e e2)
  have st : ∀ g, Free wr [xb, yb] [xn, xk, yn, yk] g → Free v [xb, yb] [xn, xk, yn', yk'] g ∧ v.heap[g]? = wr.heap[g]? := fun g hg => by
    obtain ⟨g1, g2, g3⟩ := hg
    have gy : g ≠ yb := fun e => g2 (by simp [e])
    have n1 := g3 xn (by simp); have n2 := g3 xk (by simp); have n3 := g3 yn (by simp); have n4 := g3 yk (by simp)
    refine ⟨⟨by omega, g2, fun u hu => ?_⟩, hD.far g g1 gy n3 n4⟩
    simp only [List.mem_cons, List.not_mem_nil, or_false] at hu
    rcases hu with rfl | rfl | rfl | rfl
    · exact n1
    · exact n2
    · intro e; rcases hf.1 g e with e | e; exact n3 e; omega
    · intro e; rcases hf.2 g e with e | e; exact n4 e; omega
  refine ⟨kx.trans h.xat, hD.tat, own_kpU h.xnr kn, own_kpU h.xkr kk, ?_, ?_, by simp [h.kl], fun i hi => ?_, h.a1, hD.apart,
    (ApartV.app h.a3.symm hf.1 (fun g e => (l1 g e).2)).symm, (ApartV.app h.a4.symm hf.2 (fun g e => (l1 g e).2)).symm, (ApartV.app h.a5.symm hf.1 (fun g e => (l2 g e).2)).symm, (ApartV.app h.a6.symm hf.2 (fun g e => (l2 g e).2)).symm, hx, hy, h.ne⟩
  · have := hD.names; rw [List.length_append, List.length_singleton]; simpa [wdN] using this
  · have := hD.kids; rw [List.length_append, List.length_singleton]; simpa using this
  · by_cases hi2 : i < ks.length
    · rw [List.getElem_append_left hi2]
      exact (h.kv i hi2).keep (fun g hg => (st g hg).1) (fun g hg => (st g hg).2)
    · have hi3 : i = ks.length := by simp at hi; omega
      subst hi3
      simp only [List.getElem_append_right (Nat.le_refl _), Nat.sub_self, List.getElem_cons_zero]
      exact hV.keep (fun g hg => (st g hg).1) (fun g hg => (st g hg).2)
theorem uni_tzv (l : List Nat) (z : Tz) {w : World} {S : Nat → Prop} {an ak : Option Addr} (cn ck : Nat) {us : List C4} (hl : us.length = l.length) (hn : RowV w S an 1 (l.map fun k => [.string ⟨#[letB k]⟩])) (hk : RowV w S ak 4 (us.map C4.cells)) (hv : ∀ i (h : i < us.length), TzV w S z us[i]) :
    TzV w S (uniX l z) ⟨8, ⟨#[]⟩, an, l.length, cn, ak, l.length, ck⟩ := by
  have h := TzV.mk (w := w) (S := S) 8 [] (l.map tagN) (l.map fun _ => z) an cn ak ck us (by simp [hl]) (by rw [List.map_map]; exact hn) hk (fun i h1 h2 => by simp only [List.getElem_map]; exact hv i h2)
  simp only [List.length_map] at h
  exact h
theorem UnS.vals (h : UnS wr B xb yb A D z xn xk yn yk ks) : ∃ na nc ka kc ma mc ja jc, xn = .slice na A.length nc ∧ xk = .slice ka A.length kc ∧ yn = .slice ma D.length mc ∧ yk = .slice ja D.length jc ∧
    TzV wr (Any wr) (uniX A zI) ⟨8, ⟨#[]⟩, na, A.length, nc, ka, A.length, kc⟩ ∧ TzV wr (Any wr) (uniX D z) ⟨8, ⟨#[]⟩, ma, D.length, mc, ja, D.length, jc⟩ := by
  obtain ⟨na, nc, rfl⟩ := own_sliceZ h.xnr
  obtain ⟨ka, kc, rfl⟩ := own_sliceZ h.xkr
  obtain ⟨ma, mc, rfl⟩ := own_sliceZ h.ynr
  obtain ⟨ja, jc, rfl⟩ := own_sliceZ h.ykr
  refine ⟨na, nc, ka, kc, ma, mc, ja, jc, rfl, rfl, rfl, rfl, ?_, ?_⟩
  · refine uni_tzv A zI nc kc (us := A.map fun _ => cJ) (by simp) ?_ ?_ ?_
    · exact (own_rowS (l := A.map fun k => [Value.string ⟨#[letB k]⟩]) (by rw [← wdN_flat]; exact h.xnr) (fun x hx => by obtain ⟨y, _, rfl⟩ := List.mem_map.1 hx; rfl) (by simp)).keep (fun g hg => hg.2) (fun _ _ => rfl)
    · exact (own_rowS (l := (A.map fun _ => cJ).map C4.cells) (by rw [List.map_map]; have := h.xkr; rw [List.flatMap_def] at this; exact this) (cells4_len _) (by simp)).keep (fun g hg => hg.2) (fun _ _ => rfl)
    · intro i hi; rw [List.getElem_map]; exact TzV.leaf _ _ 2 []
  · refine uni_tzv D z mc jc h.kl ?_ ?_ ?_
    · exact (own_rowS (l := D.map fun k => [Value.string ⟨#[letB k]⟩]) (by rw [← wdN_flat]; exact h.ynr) (fun x hx => by obtain ⟨y, _, rfl⟩ := List.mem_map.1 hx; rfl) (by simp)).keep (fun g hg => hg.2) (fun _ _ => rfl)
    · exact (own_rowS (l := ks.map C4.cells) (by have := h.ykr; rw [List.flatMap_def] at this; exact this) (cells4_len _) (by simp [h.kl])).keep (fun g hg => hg.2) (fun _ _ => rfl)
    · intro i hi; exact (h.kv i hi).any
end
end Sp
end Go.Proofs.Yteooafgdmpbjeab
