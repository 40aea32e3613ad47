/- Schema: the invariants of its drawn statements. Written by gen_wsch.py. -/
import Derived.Test.YteooafgdmpbjeabV33
namespace Go.Proofs.Yteooafgdmpbjeab
open Go.RowKit
namespace Sp
open Sc
/-- What the operations yield. -/
structure SV (sb : Nat) (xv NA TY : Value) (j gn on gt ot : Nat) (n : List UInt8) (rc : R4) (xc : C4) (vals : Nat → Value) : Prop where
  v0 : vals 0 = .pointer (some ⟨sb, 4, none⟩)
  v1 : vals 1 = xv
  v2 : vals 2 = NA
  v3 : vals 3 = .int .i64 j
  v4 : vals 4 = .pointer (some ⟨gn, on, none⟩)
  v5 : vals 5 = .string ⟨n.toArray⟩
  v6 : vals 6 = TY
  v7 : vals 7 = .int .i64 j
  v8 : vals 8 = .pointer (some ⟨gt, ot, none⟩)
  v9 : vals 9 = .agg #[.int .i64 rc.k, .int .i64 rc.n, .slice rc.an rc.ln rc.cn, .slice rc.ak rc.lk rc.ck]
  v10 : vals 10 = NA
  v11 : vals 11 = .agg #[.int .i64 xc.k, .string xc.n, .slice xc.an xc.ln xc.cn, .slice xc.ak xc.lk xc.ck]
  v12 : vals 12 = .agg #[.string ⟨n.toArray⟩, .int .i64 xc.k, .string xc.n, .slice xc.an xc.ln xc.cn, .slice xc.ak xc.lk xc.ck]
  v15 : vals 15 = .pointer (some ⟨sb, 4, none⟩)
structure SJ (W0 : World) (sb base : Nat) (xv NA TY : Value) (j gn on gt ot : Nat) (n : List UInt8) (rc : R4) (x : Tz) (us : List (List UInt8 × C4)) (ops : Array Oper) (a0 : Act) (listed : Array Bool) (b : Act) (v : World) : Prop where
  size : listed.size = ops.size
  closed : Closed ops listed
  rest : ∃ (vals : Nat → Value) (xc : C4), Fr ops a0 vals listed b ∧ SV sb xv NA TY j gn on gt ot n rc xc vals ∧ AM W0 sb 4 base 120 5 us.length (us.flatMap encZ) (fun c => encZ (n, c)) x xv xc (vals 13) (vals 14) (listed.getD 11 false) (listed.getD 13 false) (listed.getD 14 false) (listed.getD 16 false) v
theorem SJ.quiet {W0 : World} {sb base : Nat} {xv NA TY : Value} {j gn on gt ot : Nat} {n : List UInt8} {rc : R4} {x : Tz} {us : List (List UInt8 × C4)} {ops : Array Oper} {a0 b : Act} {listed : Array Bool} {v : World} {i : Nat} {o : Oper} {vals : Nat → Value} {xc : C4} {Q : Exit → Act → World → Prop} (hz : listed.size = ops.size) (hC : Closed ops listed) (hi : i ∈ Region.ready .any ops listed) (hF : Fr ops a0 vals listed b) (hV : SV sb xv NA TY j gn on gt ot n rc xc vals)
    (hM : AM W0 sb 4 base 120 5 us.length (us.flatMap encZ) (fun c => encZ (n, c)) x xv xc (vals 13) (vals 14) (listed.getD 11 false) (listed.getD 13 false) (listed.getD 14 false) (listed.getD 16 false) v)
    (hs : Slots ops a0.tmps.size) (ho : ops[i]? = some o) (hg : o.guard = none) (h9 : i ≠ 11 ∧ i ≠ 13 ∧ i ≠ 14 ∧ i ≠ 16) (hr : (execOp b.eval o).run Try.prog v = .ok (.value (vals i)) v) :
    wpOp Try.prog ops Q i (fun b' v' => SJ W0 sb base xv NA TY j gn on gt ot n rc x us ops a0 (listed.setIfInBounds i true) b' v') b v := by
  refine wpOp_run ho hg hr ⟨by simp [hz], hC.put hi, vals, xc, hF.put hs hz ho, hV, ?_⟩
  simp only [getD_setF]
  simpa [h9.1, h9.2.1, h9.2.2.1, h9.2.2.2] using hM
theorem nm4_at (k : Nat) (hk : k < 4) : ([.string ⟨#[65]⟩, .string ⟨#[66, 101, 101]⟩, .string ⟨#[67, 97, 116]⟩, .string ⟨#[68, 111, 103]⟩] : List Value)[k]? = some (.string ⟨(nm4.getD k []).toArray⟩) := by
  match k, hk with
  | 0, _ => rfl
  | 1, _ => rfl
  | 2, _ => rfl
  | 3, _ => rfl
theorem fn4_at (k : Nat) (hk : k < 4) : ([.string ⟨#[102, 97]⟩, .string ⟨#[102, 98]⟩, .string ⟨#[102, 99]⟩, .string ⟨#[102, 100]⟩] : List Value)[k]? = some (.string ⟨(fn4.getD k []).toArray⟩) := by
  match k, hk with
  | 0, _ => rfl
  | 1, _ => rfl
  | 2, _ => rfl
  | 3, _ => rfl
theorem cells_new1Z (w : World) (o : Obj) (l : List Value) (t : TypeId) : ∀ (j : Nat) (u : Value), l[j]? = some u → ((w.alloc o).alloc (.cells l.toArray t)).cell? ((⟨w.heap.size + 1, 0, none⟩ : Addr).add j) = some u := by
  have h := cells_newZ (w.alloc o) l t
  rw [show (w.alloc o).heap.size = w.heap.size + 1 by simp] at h
  exact h
theorem nmF_snoc (l : List (List UInt8)) (n : List UInt8) : nmF l ++ [.string ⟨n.toArray⟩] = nmF (l ++ [n]) := by simp [nmF, str]
theorem take_snoc (l : List (List UInt8)) (i : Nat) (h : i < l.length) : l.take (i + 1) = l.take i ++ [l.getD i []] := by
  rw [List.take_add_one, List.getD, List.getElem?_eq_getElem h]; rfl
/-- The names that are gathered. -/
structure L1 (w W0 : World) (types : List Rw) (v8 v9 : Value) (wr : World) (i : Nat) : Prop where
  slot : v9 = .int .i64 i
  le : i ≤ types.length ∧ i ≤ 4
  own : wr.ownsRow (w.heap.size + 3) 9 1 v8 i (nmF (nm4.take i))
  below : Below (w.heap.size + 3) W0 wr
/-- The named types that are gathered. -/
structure L2 (w W1 : World) (names : List (List UInt8)) (types : List Rw) (v10 : Value) (wr : World) (j : Nat) (v : Value) (us : List (List UInt8 × C4)) : Prop where
  slot : v10 = .int .i64 j
  le : j ≤ names.length
  sat : wr.heap[w.heap.size + 2]? = some (.cells #[.int .i64 0, .string ⟨#[]⟩, .slice none 0 0, .slice none 0 0, v, .slice none 0 0] 35 (0, 0))
  row : GRow wr W1.heap.size ((w.heap.size + 2) :: (w.heap.size + 1) :: List.range w.heap.size) v (ntR names types j) us
  below : Below w.heap.size w wr
  kp : Kp (w.heap.size + 2) W1 wr
/-- What the operations yield. -/
structure FV (NA TY : Value) (i gt ot : Nat) (n : List UInt8) (rc : R4) (lb fb : Nat) (xc : C4) (vals : Nat → Value) : Prop where
  v0 : vals 0 = .slice (some ⟨lb, 0, none⟩) 4 4
  v1 : vals 1 = .int .i64 i
  v2 : vals 2 = .pointer (some ⟨lb, i, none⟩)
  v3 : vals 3 = .string ⟨n.toArray⟩
  v4 : vals 4 = TY
  v5 : vals 5 = .int .i64 i
  v6 : vals 6 = .pointer (some ⟨gt, ot, none⟩)
  v7 : vals 7 = .agg #[.int .i64 rc.k, .int .i64 rc.n, .slice rc.an rc.ln rc.cn, .slice rc.ak rc.lk rc.ck]
  v8 : vals 8 = NA
  v9 : vals 9 = .agg #[.int .i64 xc.k, .string xc.n, .slice xc.an xc.ln xc.cn, .slice xc.ak xc.lk xc.ck]
  v10 : vals 10 = .agg #[.string ⟨n.toArray⟩, .slice none 0 0, .int .i64 xc.k, .string xc.n, .slice xc.an xc.ln xc.cn, .slice xc.ak xc.lk xc.ck]
  v11 : vals 11 = .pointer (some ⟨fb, 0, none⟩)
/-- Memory: the row of names, the answer of Tree, the variable. -/
structure FM (W0 : World) (n : List UInt8) (x : Tz) (lb fb : Nat) (xc : C4) (l0 l9 l11 l12 : Bool) (v : World) : Prop where
  below : Below W0.heap.size W0 v
  lit : l0 = true → l12 = false → v.heap[lb]? = some (.cells #[.string ⟨#[102, 97]⟩, .string ⟨#[102, 98]⟩, .string ⟨#[102, 99]⟩, .string ⟨#[102, 100]⟩] 9 (0, 0))
  tree : l9 = true → TzV v (fun g => New W0.heap.size v g ∧ (l11 = true → g ≠ fb)) x xc
  fvar : l11 = true → W0.heap.size ≤ fb ∧ v.heap[fb]? = some (.cells (if l12 then #[.string ⟨n.toArray⟩, .slice none 0 0, .int .i64 xc.k, .string xc.n, .slice xc.an xc.ln xc.cn, .slice xc.ak xc.lk xc.ck] else #[.string ⟨#[]⟩, .slice none 0 0, .int .i64 0, .string ⟨#[]⟩, .slice none 0 0, .slice none 0 0]) 58 (0, 0))
section
variable {W0 : World} {n : List UInt8} {x : Tz} {lb fb : Nat} {xc xc' : C4} {l0 l9 l11 l12 : Bool} {v v' : World}
theorem FM.start : FM W0 n x lb fb xc false false false false W0 := ⟨Below.refl _ _, (fun h => by cases h), (fun h => by cases h), (fun h => by cases h)⟩
theorem FM.later (h : FM W0 n x lb fb xc l0 l9 l11 l12 v) (hb : Below v.heap.size v v') : FM W0 n x lb fb xc l0 l9 l11 l12 v' :=
  ⟨h.below.trans (hb.mono h.below.size), fun a b => (hb.block _ (Array.getElem?_eq_some_iff.1 (h.lit a b)).1).trans (h.lit a b), fun a => (h.tree a).keep (fun _ hg => ⟨⟨hg.1.1, Nat.lt_of_lt_of_le hg.1.2 hb.size⟩, hg.2⟩) (fun g hg => hb.block g hg.1.2), fun a => ⟨(h.fvar a).1, (hb.block _ (Array.getElem?_eq_some_iff.1 (h.fvar a).2).1).trans (h.fvar a).2⟩⟩
theorem FM.litted (h : FM W0 n x lb fb xc false l9 l11 l12 v) : FM W0 n x v.heap.size fb xc true l9 l11 l12 (v.alloc (.cells #[.string ⟨#[102, 97]⟩, .string ⟨#[102, 98]⟩, .string ⟨#[102, 99]⟩, .string ⟨#[102, 100]⟩] 9)) :=
  have k := h.later ((Below.refl _ v).alloc (Nat.le_refl _) (.cells #[.string ⟨#[102, 97]⟩, .string ⟨#[102, 98]⟩, .string ⟨#[102, 99]⟩, .string ⟨#[102, 100]⟩] 9))
  ⟨k.below, fun _ _ => heap_alloc_new v _, k.tree, k.fvar⟩
theorem FM.called (h : FM W0 n x lb fb xc l0 false l11 false v) (hb : Below v.heap.size v v') (hV : TzV v' (New v.heap.size v') x xc') : FM W0 n x lb fb xc' l0 true l11 false v' :=
  have k := h.later hb
  ⟨k.below, k.lit, fun _ => hV.keep (fun g hg => ⟨⟨Nat.le_trans h.below.size hg.1, hg.2⟩, fun a e => by have := (Array.getElem?_eq_some_iff.1 (h.fvar a).2).1; have := hg.1; omega⟩) (fun _ _ => rfl), fun a => by simpa using k.fvar a⟩
theorem FM.made (h : FM W0 n x lb fb xc l0 l9 false false v) : FM W0 n x lb v.heap.size xc l0 l9 true false (v.alloc (.cells #[.string ⟨#[]⟩, .slice none 0 0, .int .i64 0, .string ⟨#[]⟩, .slice none 0 0, .slice none 0 0] 58)) :=
  have k := h.later ((Below.refl _ v).alloc (Nat.le_refl _) (.cells #[.string ⟨#[]⟩, .slice none 0 0, .int .i64 0, .string ⟨#[]⟩, .slice none 0 0, .slice none 0 0] 58))
  ⟨k.below, k.lit, fun a => (h.tree a).keep (fun g hg => ⟨⟨hg.1.1, by simp; have := hg.1.2; omega⟩, fun _ e => by have := hg.1.2; omega⟩) (fun g hg => Below.heap_alloc _ _ _ hg.1.2), fun _ => ⟨h.below.size, heap_alloc_new v _⟩⟩
def putS (w : World) (b : Nat) (n : List UInt8) (xc : C4) : World :=
  (((((w.setCell ⟨b, 0, none⟩ (.string ⟨n.toArray⟩)).setCell ⟨b, 1, none⟩ (.slice none 0 0)).setCell ⟨b, 2, none⟩ (.int .i64 xc.k)).setCell ⟨b, 3, none⟩ (.string xc.n)).setCell ⟨b, 4, none⟩ (.slice xc.an xc.ln xc.cn)).setCell ⟨b, 5, none⟩ (.slice xc.ak xc.lk xc.ck)
theorem putS_only (w : World) (b : Nat) (n : List UInt8) (xc : C4) : Only b w (putS w b n xc) := ((((((Only.refl b w).setCell 0 _).setCell 1 _).setCell 2 _).setCell 3 _).setCell 4 _).setCell 5 _
theorem FM.stored (h : FM W0 n x lb fb xc true true true false v) : FM W0 n x lb fb xc true true true true (putS v fb n xc) := by
  have ho := putS_only v fb n xc
  obtain ⟨f1, f2⟩ := h.fvar rfl
  have f2 : v.heap[fb]? = some (.cells #[.string ⟨#[]⟩, .slice none 0 0, .int .i64 0, .string ⟨#[]⟩, .slice none 0 0, .slice none 0 0] 58 (0, 0)) := f2
  refine ⟨h.below.trans (ho.below f1 h.below.size), (fun _ h => by cases h), fun _ => (h.tree rfl).keep (fun g hg => ⟨⟨hg.1.1, Nat.lt_of_lt_of_le hg.1.2 ho.size⟩, hg.2⟩) (fun g hg => ho.block g hg.1.2 (fun e => hg.2 rfl (by cases e; rfl))), fun _ => ⟨f1, ?_⟩⟩
  simp [putS, World.setCell, Array.getElem?_modify, f2]
end
structure FJ (W0 : World) (NA TY : Value) (k gt ot : Nat) (n : List UInt8) (rc : R4) (x : Tz) (ops : Array Oper) (a0 : Act) (listed : Array Bool) (b : Act) (v : World) : Prop where
  size : listed.size = ops.size
  closed : Closed ops listed
  rest : ∃ (vals : Nat → Value) (lb : Nat) (fb : Nat) (xc : C4), Fr ops a0 vals listed b ∧ FV NA TY k gt ot n rc lb fb xc vals ∧ FM W0 n x lb fb xc (listed.getD 0 false) (listed.getD 9 false) (listed.getD 11 false) (listed.getD 12 false) v
theorem FJ.quiet {W0 : World} {NA TY : Value} {k gt ot : Nat} {n : List UInt8} {rc : R4} {x : Tz} {ops : Array Oper} {a0 b : Act} {listed : Array Bool} {v : World} {i : Nat} {o : Oper} {vals : Nat → Value} {lb : Nat} {fb : Nat} {xc : C4} {Q : Exit → Act → World → Prop} (hz : listed.size = ops.size) (hC : Closed ops listed) (hi : i ∈ Region.ready .any ops listed) (hF : Fr ops a0 vals listed b) (hV : FV NA TY k gt ot n rc lb fb xc vals)
    (hM : FM W0 n x lb fb xc (listed.getD 0 false) (listed.getD 9 false) (listed.getD 11 false) (listed.getD 12 false) v)
    (hs : Slots ops a0.tmps.size) (ho : ops[i]? = some o) (hg : o.guard = none) (h9 : i ≠ 0 ∧ i ≠ 9 ∧ i ≠ 11 ∧ i ≠ 12) (hr : (execOp b.eval o).run Try.prog v = .ok (.value (vals i)) v) :
    wpOp Try.prog ops Q i (fun b' v' => FJ W0 NA TY k gt ot n rc x ops a0 (listed.setIfInBounds i true) b' v') b v := by
  refine wpOp_run ho hg hr ⟨by simp [hz], hC.put hi, vals, lb, fb, xc, hF.put hs hz ho, hV, ?_⟩
  simp only [getD_setF]
  simpa [h9.1, h9.2.1, h9.2.2.1, h9.2.2.2] using hM
/-- What the operations yield. -/
structure PVs (sb : Nat) (xv NA TY KS : Value) (i k gt ot gk ok : Nat) (rc : R4) (xc : C4) (vals : Nat → Value) : Prop where
  v0 : vals 0 = .pointer (some ⟨sb, 1, none⟩)
  v1 : vals 1 = xv
  v2 : vals 2 = TY
  v3 : vals 3 = .int .i64 i
  v4 : vals 4 = .pointer (some ⟨gt, ot, none⟩)
  v5 : vals 5 = .pointer (some ⟨gt, ot + 3, none⟩)
  v6 : vals 6 = KS
  v7 : vals 7 = .int .i64 k
  v8 : vals 8 = .pointer (some ⟨gk, ok, none⟩)
  v9 : vals 9 = .agg #[.int .i64 rc.k, .int .i64 rc.n, .slice rc.an rc.ln rc.cn, .slice rc.ak rc.lk rc.ck]
  v10 : vals 10 = NA
  v11 : vals 11 = .agg #[.int .i64 xc.k, .string xc.n, .slice xc.an xc.ln xc.cn, .slice xc.ak xc.lk xc.ck]
  v14 : vals 14 = .pointer (some ⟨sb, 1, none⟩)
structure PJs (W0 : World) (sb base : Nat) (xv NA TY KS : Value) (m k gt ot gk ok : Nat) (rc : R4) (x : Tz) (us : List C4) (ops : Array Oper) (a0 : Act) (listed : Array Bool) (b : Act) (v : World) : Prop where
  size : listed.size = ops.size
  closed : Closed ops listed
  rest : ∃ (vals : Nat → Value) (xc : C4), Fr ops a0 vals listed b ∧ PVs sb xv NA TY KS m k gt ot gk ok rc xc vals ∧ AM W0 sb 1 base 31 4 us.length (us.flatMap C4.cells) C4.cells x xv xc (vals 12) (vals 13) (listed.getD 11 false) (listed.getD 12 false) (listed.getD 13 false) (listed.getD 15 false) v
theorem PJs.quiet {W0 : World} {sb base : Nat} {xv NA TY KS : Value} {m k gt ot gk ok : Nat} {rc : R4} {x : Tz} {us : List C4} {ops : Array Oper} {a0 b : Act} {listed : Array Bool} {v : World} {i : Nat} {o : Oper} {vals : Nat → Value} {xc : C4} {Q : Exit → Act → World → Prop} (hz : listed.size = ops.size) (hC : Closed ops listed) (hi : i ∈ Region.ready .any ops listed) (hF : Fr ops a0 vals listed b) (hV : PVs sb xv NA TY KS m k gt ot gk ok rc xc vals)
    (hM : AM W0 sb 1 base 31 4 us.length (us.flatMap C4.cells) C4.cells x xv xc (vals 12) (vals 13) (listed.getD 11 false) (listed.getD 12 false) (listed.getD 13 false) (listed.getD 15 false) v)
    (hs : Slots ops a0.tmps.size) (ho : ops[i]? = some o) (hg : o.guard = none) (h9 : i ≠ 11 ∧ i ≠ 12 ∧ i ≠ 13 ∧ i ≠ 15) (hr : (execOp b.eval o).run Try.prog v = .ok (.value (vals i)) v) :
    wpOp Try.prog ops Q i (fun b' v' => PJs W0 sb base xv NA TY KS m k gt ot gk ok rc x us ops a0 (listed.setIfInBounds i true) b' v') b v := by
  refine wpOp_run ho hg hr ⟨by simp [hz], hC.put hi, vals, xc, hF.put hs hz ho, hV, ?_⟩
  simp only [getD_setF]
  simpa [h9.1, h9.2.1, h9.2.2.1, h9.2.2.2] using hM
theorem own_kp {W wr : World} {base b sz n : Nat} {e : TypeId} {v : Value} {xs : List Value} (h : W.ownsRow base e sz v n xs) (hb : b ≤ base) (hk : ∀ g, v.ownBlock = some g → wr.heap[g]? = W.heap[g]?) : wr.ownsRow b e sz v n xs := by
  rcases h.2 with ⟨rfl, h0⟩ | ⟨g, cap, cur, rfl, hg, hc, hr⟩
  · exact ⟨h.1, .inl ⟨rfl, h0⟩⟩
  · exact ⟨h.1, .inr ⟨g, cap, cur, rfl, Nat.le_trans hb hg, (hk g rfl).trans hc, hr⟩⟩
/-- Blocks of a row. -/
def blkL (v : Value) : List Nat := v.ownBlock.toList
theorem mem_blkL {v : Value} {g : Nat} : g ∈ blkL v ↔ v.ownBlock = some g := by unfold blkL; cases v.ownBlock <;> simp [eq_comm]
theorem lit_at {w : World} {b : Nat} {t : TypeId} {l : List Value} (h : w.heap[b]? = some (.cells l.toArray t (0, 0))) {k : Nat} {nm : List UInt8} (hk : l[k]? = some (.string ⟨nm.toArray⟩)) : w.cell? ⟨b, k, none⟩ = some (.string ⟨nm.toArray⟩) := by
  simp [World.cell?, h, hk]
/-- The functions that are gathered. -/
structure L3 (w W3 : World) (X3 : List Nat) (names : List (List UInt8)) (sigs : List Rw) (mc : C4) (v1 : Value) (v11 : Value) (wr : World) (j : Nat) (v : Value) (gs : List (List UInt8 × G6)) : Prop where
  slot : v11 = .int .i64 j
  le : j ≤ sigs.length ∧ j ≤ 4
  sat : wr.heap[w.heap.size + 2]? = some (.cells #[.int .i64 mc.k, .string mc.n, .slice mc.an mc.ln mc.cn, .slice mc.ak mc.lk mc.ck, v1, v] 35 (0, 0))
  row : SRow wr W3.heap.size X3 v (sgsR names sigs j) gs
  below : Below w.heap.size w wr
  kp : Kp (w.heap.size + 2) W3 wr
/-- A function's parameters that are gathered. -/
structure L4 (W4 : World) (fb : Nat) (X : List Nat) (v2 : Value) (n : List UInt8) (names : List (List UInt8)) (ks : List Rw) (xc : C4) (v13 : Value) (wr : World) (k : Nat) (v : Value) (us : List C4) : Prop where
  slot : v13 = .int .i64 k
  le : k ≤ ks.length ∧ k ≤ 3
  fat : wr.heap[fb]? = some (.cells #[.string ⟨n.toArray⟩, v, .int .i64 xc.k, .string xc.n, .slice xc.an xc.ln xc.cn, .slice xc.ak xc.lk xc.ck] 58 (0, 0))
  row : TRow wr W4.heap.size (fb :: X) [v, v2] v (parR names ks k) us
  kp : Kp fb W4 wr
  below : Below fb W4 wr
end Sp
end Go.Proofs.Yteooafgdmpbjeab
