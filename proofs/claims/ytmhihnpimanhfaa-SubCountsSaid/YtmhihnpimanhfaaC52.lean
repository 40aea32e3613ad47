/- SubRings: two rings of records, as a plain function; what is asked of them. -/
import Derived.Test.YtmhihnpimanhfaaC51
import Derived.Test.YtmhihnpimanhfaaC24
import Derived.Test.YtmhihnpimanhfaaC43
namespace Go.Proofs.Ytmhihnpimanhfaa
open Go.RowKit
namespace Sp
open Sc
def shortB (s : Sz) : Bool := s.types.all (fun x => decide (x.1.length ≤ 1000) && (fitZ x.2 && shortZ x.2)) && (fitZ s.main && shortZ s.main) && s.sigs.isEmpty
theorem shortB_is {s : Sz} (h : shortB s = true) : ShortS s := by
  unfold shortB at h
  simp only [Bool.and_eq_true, List.all_eq_true, decide_eq_true_eq, List.isEmpty_iff] at h
  exact ⟨fun i hi => h.1.1 _ (List.getElem_mem hi), h.1.2, fun g hg => by rw [h.2] at hg; cases hg⟩
/-- What a law of one more type finds: the table is made, the type is added, names lead somewhere. -/
def fineB (s : Sz) (t : Tz) : Bool :=
  let p := newK s
  let a := addK (hasZ p.2.N) p.2.T t
  fitS s && (shortB s && (fitZ t && (shortZ t && (decide (p.1 = 0) && (decide (a.2.1 = 0) && (decide (p.2.m < a.2.2.length) && (decide (a.1 < a.2.2.length) && opB a.2.2 p.2.N)))))))
structure Fine (s : Sz) (t : Tz) (tab : Tab) (k : Nat) (T : List Kz) : Prop where
  fit : fitS s = true
  short : ShortS s
  tfit : fitZ t = true
  tshort : shortZ t = true
  new : newK s = (0, tab)
  add : addK (hasZ tab.N) tab.T t = (k, 0, T)
  main : tab.m < T.length
  id : k < T.length
  op : OpL T tab.N
theorem fineB_is {s : Sz} {t : Tz} (h : fineB s t = true) : Fine s t (newK s).2 (addK (hasZ (newK s).2.N) (newK s).2.T t).1 (addK (hasZ (newK s).2.N) (newK s).2.T t).2.2 := by
  unfold fineB at h
  simp only [Bool.and_eq_true, decide_eq_true_eq] at h
  obtain ⟨h1, h2, h3, h4, h5, h6, h7, h8, h9⟩ := h
  exact ⟨h1, shortB_is h2, h3, h4, Prod.ext h5 rfl, Prod.ext rfl (Prod.ext h6 rfl), h7, h8, opB_is h9⟩
set_option maxRecDepth 100000
end Sp
end Go.Proofs.Ytmhihnpimanhfaa
namespace Go.Proofs.Ytmhihnpimanhfaa
open Go.RowKit
namespace Sp
open Sc
/-- The kind at a turn (k goes down from n), and the other chain's. -/
def kindC (p k : Nat) : Nat := 4 + (p + k) % 2
def kindD (p part k : Nat) : Nat := if k = part then 9 - kindC p k else kindC p k
def x0C : Tz := .mk 7 [] [[112], [113]] [zI, zI]
def y0C : Tz := .mk 7 [] [[112]] [zI]
/-- The chains behind so many turns. -/
def chX (p n : Nat) : Nat → Tz
  | 0 => x0C
  | i + 1 => .mk (kindC p (n - i) : Nat) [] [] [chX p n i]
def chY (p part n : Nat) : Nat → Tz
  | 0 => y0C
  | i + 1 => .mk (kindD p part (n - i) : Nat) [] [] [chY p part n i]
def countB (n part p : Nat) : Bool :=
  let s : Sz := ⟨chX p n n, [], []⟩
  let p2 := (newK s).2
  let a := addK (hasZ p2.N) p2.T (chY p part n n)
  let x := leL a.2.2 (openK a.2.2 p2.N 13) p2.m a.1
  let y := leL a.2.2 (openK a.2.2 p2.N 13) a.1 a.1
  fineB s (chY p part n n) && (y.1 && (decide (y.2.length = 0) && (if 1 ≤ part ∧ part ≤ n then !x.1 && decide (x.2.length = part) else x.1 && decide (x.2.length = n + 1))))
set_option maxRecDepth 100000
theorem countB_all : (List.range 8).all (fun n => (List.range (n + 2)).all fun part => (List.range 2).all fun p => countB n part p) = true := by kernel_rfl
end Sp
end Go.Proofs.Ytmhihnpimanhfaa
namespace Go.Proofs.Ytmhihnpimanhfaa
open Go.RowKit
namespace Sp
open Sc
/-- The statement while it runs: l2, l6: the rows are made; l8, l9: the variables are written. -/
structure CnM (W9 : World) (xb yb : Nat) (cx cy : C4) (ka kb : Int) (l2 l6 l8 l9 : Bool) (x : Nat × Nat) (v : World) : Prop where
  keeps : Keeps (fun g => g = xb ∨ g = yb) W9 v
  m2 : l2 = true → v.heap[x.1]? = some (.cells #[.int .i64 cx.k, .string cx.n, .slice cx.an cx.ln cx.cn, .slice cx.ak cx.lk cx.ck] 25 (0, 0)) ∧ W9.heap.size ≤ x.1
  m6 : l6 = true → v.heap[x.2]? = some (.cells #[.int .i64 cy.k, .string cy.n, .slice cy.an cy.ln cy.cn, .slice cy.ak cy.lk cy.ck] 25 (0, 0)) ∧ W9.heap.size ≤ x.2
  xOld : l8 = false → v.heap[xb]? = some (.cells #[.int .i64 cx.k, .string cx.n, .slice cx.an cx.ln cx.cn, .slice cx.ak cx.lk cx.ck] 25 (0, 0))
  yOld : l9 = false → v.heap[yb]? = some (.cells #[.int .i64 cy.k, .string cy.n, .slice cy.an cy.ln cy.cn, .slice cy.ak cy.lk cy.ck] 25 (0, 0))
  xNew : l8 = true → v.heap[xb]? = some (.cells #[.int .i64 ka, .string ⟨#[]⟩, .slice none 0 0, .slice (some ⟨x.1, 0, none⟩) 1 1] 25 (0, 0))
  yNew : l9 = true → v.heap[yb]? = some (.cells #[.int .i64 kb, .string ⟨#[]⟩, .slice none 0 0, .slice (some ⟨x.2, 0, none⟩) 1 1] 25 (0, 0))
  xlt : xb < W9.heap.size
  ylt : yb < W9.heap.size
  ne : xb ≠ yb
section
variable {W9 v : World} {xb yb : Nat} {cx cy : C4} {ka kb : Int} {l2 l6 l8 l9 : Bool} {x : Nat × Nat}
theorem alloc_old {v : World} {b : Nat} {o p : Obj} (h : v.heap[b]? = some o) : (v.alloc p).heap[b]? = some o := (Below.heap_alloc _ _ _ (Array.getElem?_eq_some_iff.1 h).1).trans h
theorem CnM.make2 (h : CnM W9 xb yb cx cy ka kb l2 l6 l8 l9 x v) (h8 : l8 = false) : CnM W9 xb yb cx cy ka kb true l6 l8 l9 (v.heap.size, x.2) (v.alloc (.cells #[.int .i64 cx.k, .string cx.n, .slice cx.an cx.ln cx.cn, .slice cx.ak cx.lk cx.ck] 25)) :=
  ⟨h.keeps.alloc _, fun _ => ⟨heap_alloc_new v _, h.keeps.size⟩, fun e => ⟨alloc_old (h.m6 e).1, (h.m6 e).2⟩, fun e => alloc_old (h.xOld e), fun e => alloc_old (h.yOld e), (fun e => by rw [h8] at e; cases e), fun e => alloc_old (h.yNew e), h.xlt, h.ylt, h.ne⟩
theorem CnM.make6 (h : CnM W9 xb yb cx cy ka kb l2 l6 l8 l9 x v) (h9 : l9 = false) : CnM W9 xb yb cx cy ka kb l2 true l8 l9 (x.1, v.heap.size) (v.alloc (.cells #[.int .i64 cy.k, .string cy.n, .slice cy.an cy.ln cy.cn, .slice cy.ak cy.lk cy.ck] 25)) :=
  ⟨h.keeps.alloc _, fun e => ⟨alloc_old (h.m2 e).1, (h.m2 e).2⟩, fun _ => ⟨heap_alloc_new v _, h.keeps.size⟩, fun e => alloc_old (h.xOld e), fun e => alloc_old (h.yOld e), fun e => alloc_old (h.xNew e), (fun e => by rw [h9] at e; cases e), h.xlt, h.ylt, h.ne⟩
theorem put4_far {v : World} {b g : Nat} {c : C4} {o : Obj} (hne : g ≠ b) (h : v.heap[g]? = some o) : (put4 v b c).heap[g]? = some o :=
  ((put4_only v b c).block g (Array.getElem?_eq_some_iff.1 h).1 (fun e => hne (by cases e; rfl))).trans h
theorem put4_keeps {W9 v : World} {O : Nat → Prop} {b : Nat} {c : C4} (h : Keeps O W9 v) (hO : O b) : Keeps O W9 (put4 v b c) := (((h.setCell 0 _ hO).setCell 1 _ hO).setCell 2 _ hO).setCell 3 _ hO
theorem CnM.store8 (h : CnM W9 xb yb cx cy ka kb l2 l6 l8 l9 x v) (h8 : l8 = false) : CnM W9 xb yb cx cy ka kb l2 l6 true l9 x (put4 v xb ⟨ka, ⟨#[]⟩, none, 0, 0, some ⟨x.1, 0, none⟩, 1, 1⟩) :=
  ⟨put4_keeps h.keeps (.inl rfl), fun e => ⟨put4_far (by have := (h.m2 e).2; have := h.xlt; omega) (h.m2 e).1, (h.m2 e).2⟩, fun e => ⟨put4_far (by have := (h.m6 e).2; have := h.xlt; omega) (h.m6 e).1, (h.m6 e).2⟩, (fun e => by cases e), fun e => put4_far (fun e => h.ne e.symm) (h.yOld e), fun _ => put4_at (h.xOld h8) _, fun e => put4_far (fun e => h.ne e.symm) (h.yNew e), h.xlt, h.ylt, h.ne⟩
theorem CnM.store9 (h : CnM W9 xb yb cx cy ka kb l2 l6 l8 l9 x v) (h9 : l9 = false) : CnM W9 xb yb cx cy ka kb l2 l6 l8 true x (put4 v yb ⟨kb, ⟨#[]⟩, none, 0, 0, some ⟨x.2, 0, none⟩, 1, 1⟩) :=
  ⟨put4_keeps h.keeps (.inr rfl), fun e => ⟨put4_far (by have := (h.m2 e).2; have := h.ylt; omega) (h.m2 e).1, (h.m2 e).2⟩, fun e => ⟨put4_far (by have := (h.m6 e).2; have := h.ylt; omega) (h.m6 e).1, (h.m6 e).2⟩, fun e => put4_far h.ne (h.xOld e), (fun e => by cases e), fun e => put4_far h.ne (h.xNew e), fun _ => put4_at (h.yOld h9) _, h.xlt, h.ylt, h.ne⟩
end
/-- The chains so far. -/
structure CtR (w1 : World) (xb yb p part n : Nat) (iv : Value) (wr : World) (i : Nat) (cx cy : C4) : Prop where
  slot : iv = .int .i64 ((n - i : Nat) : Int)
  le : i ≤ n
  xat : wr.heap[xb]? = some (.cells #[.int .i64 cx.k, .string cx.n, .slice cx.an cx.ln cx.cn, .slice cx.ak cx.lk cx.ck] 25 (0, 0))
  yat : wr.heap[yb]? = some (.cells #[.int .i64 cy.k, .string cy.n, .slice cy.an cy.ln cy.cn, .slice cy.ak cy.lk cy.ck] 25 (0, 0))
  xv : TzV wr (Free wr [xb, yb] []) (chX p n i) cx
  yv : TzV wr (Free wr [xb, yb] []) (chY p part n i) cy
  below : Below w1.heap.size w1 wr
theorem Free.keeps {W9 v : World} {xb yb g : Nat} (hk : Keeps (fun g => g = xb ∨ g = yb) W9 v) (hg : Free W9 [xb, yb] [] g) : Free v [xb, yb] [] g ∧ v.heap[g]? = W9.heap[g]? :=
  ⟨⟨Nat.lt_of_lt_of_le hg.1 hk.size, hg.2⟩, hk.block g hg.1 (fun e => hg.2.1 (by simp; exact e))⟩
/-- Behind the statement the chains are one longer. -/
theorem CnM.grown {W9 v : World} {xb yb : Nat} {cx cy : C4} {ka kb : Int} {x : Nat × Nat} {t u : Tz} (h : CnM W9 xb yb cx cy ka kb true true true true x v) (hx : TzV W9 (Free W9 [xb, yb] []) t cx) (hy : TzV W9 (Free W9 [xb, yb] []) u cy) :
    TzV v (Free v [xb, yb] []) (.mk ka [] [] [t]) ⟨ka, ⟨#[]⟩, none, 0, 0, some ⟨x.1, 0, none⟩, 1, 1⟩ ∧ TzV v (Free v [xb, yb] []) (.mk kb [] [] [u]) ⟨kb, ⟨#[]⟩, none, 0, 0, some ⟨x.2, 0, none⟩, 1, 1⟩ := by
  obtain ⟨a1, a2⟩ := h.m2 rfl
  obtain ⟨b1, b2⟩ := h.m6 rfl
  have hl := h.xlt; have hm := h.ylt
  exact ⟨TzV.kidF ka a1 ⟨(Array.getElem?_eq_some_iff.1 a1).1, by simp; omega, by simp⟩ (hx.keep (fun g hg => (Free.keeps h.keeps hg).1) (fun g hg => (Free.keeps h.keeps hg).2)), TzV.kidF kb b1 ⟨(Array.getElem?_eq_some_iff.1 b1).1, by simp; omega, by simp⟩ (hy.keep (fun g hg => (Free.keeps h.keeps hg).1) (fun g hg => (Free.keeps h.keeps hg).2))⟩
end Sp
end Go.Proofs.Ytmhihnpimanhfaa
