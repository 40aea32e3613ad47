/- ShapeMany: what its schema is; a statement that appends to two rows, in whatever order. -/
import Derived.Test.YtjjpjkkaogfoaaaZRingsP
import Derived.Test.YtjjpjkkaogfoaaaZBndD
namespace Go.Proofs.Ytjjpjkkaogfoaaa
open Go.RowKit
namespace Sp
open Sc
set_option maxRecDepth 100000

def nmL (k : Nat) : List (List UInt8) := (List.range k).map fun i => [lower i]
def eightT : Tz := .mk 7 [] (nmL 8) (List.replicate 8 zI)
def wideT : Tz := .mk 7 [] (nmL 8) (List.replicate 8 eightT)
def manyS (n : Nat) : Sz := ⟨zI, (List.range 5).map fun i => ([upper i], wideT), (List.range 3).map (fun i => ⟨[102, lower i], [], eightT⟩) ++ [⟨[103], List.replicate 4 zI, zI⟩] ++ [⟨[104], List.replicate n zI, zI⟩]⟩
theorem many_all : (List.range 4).all (fun n => fitS (manyS n) && decide ((checkZ (manyS n)).map Int.ofNat = some (if n ≤ 1 then 0 else 3))) = true := by kernel_rfl
theorem many_is {n : Nat} (h : n < 4) : fitS (manyS n) = true ∧ (checkZ (manyS n)).map Int.ofNat = some (if n ≤ 1 then 0 else 3) := by
  have := List.all_eq_true.1 many_all n (List.mem_range.2 h)
  simpa only [Bool.and_eq_true, decide_eq_true_eq] using this
def nmV (k : Nat) : List Value := (List.range k).map fun i => .string ⟨#[lower i]⟩
def kdV (c : C4) (k : Nat) : List Value := (List.replicate k c).flatMap C4.cells
theorem conv_blkZ {v : World} {g : Nat} {z : Int} {c : UInt8} (hz : z = (c.toNat : Int)) (h : v.heap[g]? = some (.cells #[.int .u8 z] 5 (0, 0))) : (convert 72 9 (.slice (some ⟨g, 0, none⟩) 1 1)).run Try.prog v = .ok (.string ⟨#[c]⟩) v := by
  have e := run_convert_bytes_arg (P := Try.prog) v 72 5 Try.underlying72 Try.underlying5 g 0 1 1 [z] rfl
    (fun i hi => by
      obtain rfl : i = 0 := by simpa using hi
      simp [World.cell?, h]) 9 Try.underlying9
  rw [e, hz]
  congr 2
  apply ByteArray.ext
  simp [strOfNums]
/-- A block of one byte, the statement's own. -/
def Lit (W0 : World) (z : Int) (x : Value) (v : World) : Prop := ∃ g, x = .slice (some ⟨g, 0, none⟩) 1 1 ∧ W0.heap.size ≤ g ∧ g < v.heap.size ∧ v.heap[g]? = some (.cells #[.int .u8 z] 5 (0, 0))
theorem Lit.keep {W0 v v' : World} {z : Int} {x : Value} {r : Option Nat} (h : Lit W0 z x v) (hg : v.grownBy v' r) (hr : ∀ g, r = some g → g < W0.heap.size) : Lit W0 z x v' := by
  obtain ⟨g, e1, e2, e3, e4⟩ := h
  exact ⟨g, e1, e2, Nat.lt_of_lt_of_le e3 hg.size, (hg.block g e3 (fun e => by have := hr g e.symm; omega)).trans e4⟩
theorem Only.grown {rb : Nat} {w0 v v' : World} {r : Option Nat} (h : Only rb w0 v) (hg : v.grownBy v' r) (hr : ∀ g, r = some g → g = rb ∨ w0.heap.size ≤ g) : Only rb w0 v' :=
  ⟨hg.os.trans h.os, hg.tape.trans h.tape, hg.output.trans h.output, Nat.le_trans h.size hg.size, fun k hk hn => (hg.block k (Nat.lt_of_lt_of_le hk h.size) (fun e => (hr k e.symm).elim (fun e => hn (by rw [e])) (fun e => by omega))).trans (h.block k hk hn)⟩
/-- What the operations of the statement yield. -/
structure MV (E k : Nat) (xn xk : Value) (c : C4) (vals : Nat → Value) : Prop where
  v0 : vals 0 = .pointer (some ⟨E, 2, none⟩)
  v1 : vals 1 = xn
  v2 : vals 2 = .int .i64 k
  v3 : vals 3 = .int .i64 (97 + (k : Int))
  v4 : vals 4 = .int .u8 (97 + (k : Int))
  v6 : vals 6 = .string ⟨#[lower k]⟩
  v9 : vals 9 = .pointer (some ⟨E, 3, none⟩)
  v10 : vals 10 = xk
  v11 : vals 11 = .agg #[.int .i64 c.k, .string c.n, .slice c.an c.ln c.cn, .slice c.ak c.lk c.ck]
  v14 : vals 14 = .pointer (some ⟨E, 2, none⟩)
  v16 : vals 16 = .pointer (some ⟨E, 3, none⟩)
/-- Memory while the statement runs. -/
structure MM (W0 w0 : World) (E base k : Nat) (xn xk : Value) (c : C4) (vals : Nat → Value) (l5 l7 l8 l12 l13 l15 l17 : Bool) (v : World) : Prop where
  lit : l5 = true → Lit W0 (97 + (k : Int)) (vals 5) v
  sn : Side W0 base 9 1 xn k (nmV k) [.string ⟨#[lower k]⟩] l7 l8 (vals 7) (vals 8) v
  sk : Side W0 base 25 4 xk k (kdV c k) c.cells l12 l13 (vals 12) (vals 13) v
  ap : ApartV (curV xn (vals 8) l8) (curV xk (vals 13) l13)
  tat : v.heap[E]? = some (.cells #[.int .i64 7, .string ⟨#[]⟩, if l15 then vals 8 else xn, if l17 then vals 13 else xk] 25 (0, 0))
  only : Only E w0 v
  size : W0.heap.size ≤ v.heap.size
structure MJ (W0 w0 : World) (E base k : Nat) (xn xk : Value) (c : C4) (ops : Array Oper) (a0 : Act) (listed : Array Bool) (b : Act) (v : World) : Prop where
  size : listed.size = ops.size
  closed : Closed ops listed
  rest : ∃ vals : Nat → Value, Fr ops a0 vals listed b ∧ MV E k xn xk c vals ∧ MM W0 w0 E base k xn xk c vals (listed.getD 5 false) (listed.getD 7 false) (listed.getD 8 false) (listed.getD 12 false) (listed.getD 13 false) (listed.getD 15 false) (listed.getD 17 false) v
theorem MJ.quiet {W0 w0 : World} {E base k : Nat} {xn xk : Value} {c : C4} {ops : Array Oper} {a0 b : Act} {listed : Array Bool} {v : World} {i : Nat} {o : Oper} {vals : Nat → Value} {Q : Exit → Act → World → Prop} (hz : listed.size = ops.size) (hC : Closed ops listed) (hi : i ∈ Region.ready .any ops listed) (hF : Fr ops a0 vals listed b) (hV : MV E k xn xk c vals) (hM : MM W0 w0 E base k xn xk c vals (listed.getD 5 false) (listed.getD 7 false) (listed.getD 8 false) (listed.getD 12 false) (listed.getD 13 false) (listed.getD 15 false) (listed.getD 17 false) v)
    (hs : Slots ops a0.tmps.size) (ho : ops[i]? = some o) (hg : o.guard = none) (h9 : i ≠ 5 ∧ i ≠ 7 ∧ i ≠ 8 ∧ i ≠ 12 ∧ i ≠ 13 ∧ i ≠ 15 ∧ i ≠ 17) (hr : (execOp b.eval o).run Try.prog v = .ok (.value (vals i)) v) :
    wpOp Try.prog ops Q i (fun b' v' => MJ W0 w0 E base k xn xk c ops a0 (listed.setIfInBounds i true) b' v') b v := by
  refine wpOp_run ho hg hr ⟨by simp [hz], hC.put hi, vals, hF.put hs hz ho, hV, ?_⟩
  simp only [getD_setF]
  simpa [h9.1, h9.2.1, h9.2.2.1, h9.2.2.2.1, h9.2.2.2.2.1, h9.2.2.2.2.2.1, h9.2.2.2.2.2.2] using hM
/-- The loop's round: a record's names and kids, so many. -/
structure LRel (w0 : World) (E : Nat) (c : C4) (sv : Value) (wr : World) (k : Nat) (xn xk : Value) : Prop where
  slot : sv = .int .i64 k
  le : k ≤ 8
  eat : wr.heap[E]? = some (.cells #[.int .i64 7, .string ⟨#[]⟩, xn, xk] 25 (0, 0))
  names : wr.ownsRow (E + 1) 9 1 xn k (nmV k)
  kids : wr.ownsRow (E + 1) 25 4 xk k (kdV c k)
  apart : ApartV xn xk
  only : Only E w0 wr
def oT7 : Obj := .cells #[.int .i64 7, .string ⟨#[]⟩, .slice none 0 0, .slice none 0 0] 25
theorem LRel.start {w : World} (c : C4) : LRel (w.alloc oT7) w.heap.size c (.int .i64 0) (w.alloc oT7) 0 (.slice none 0 0) (.slice none 0 0) :=
  ⟨rfl, Nat.zero_le _, by rw [blk_if, if_pos rfl]; rfl, World.ownsRow_nil _ _ _ _, World.ownsRow_nil _ _ _ _, (fun g h => by cases h), Only.refl _ _⟩
theorem nm_flat (k : Nat) : ((nmL k).map fun n => [str n]).flatten = nmV k := by
  unfold nmL nmV
  rw [List.map_map]
  generalize List.range k = l
  induction l with
  | nil => rfl
  | cons a l ih => simp only [List.map_cons, List.flatten_cons, ih]; rfl
/-- The record that the loop leaves. -/
theorem LRel.made {w0 wr : World} {E k : Nat} {c : C4} {sv : Value} {t : Tz} {xn xk : Value} (h : LRel w0 E c sv wr k xn xk) (hV : TzV wr (Any wr) t c) : ∃ an cn ak ck, xn = .slice an k cn ∧ xk = .slice ak k ck ∧ TzV wr (Any wr) (.mk 7 [] (nmL k) (List.replicate k t)) ⟨7, ⟨#[]⟩, an, k, cn, ak, k, ck⟩ := by
  obtain ⟨an, cn, e1, h1⟩ := RowV.own (S := Any wr) (l := (nmL k).map fun n => [str n]) (by rw [nm_flat]; exact h.names) (str1_len _) (by simp [nmL]) (fun g hg => (h.names.lt g hg).2)
  obtain ⟨ak, ck, e2, h2⟩ := RowV.own (S := Any wr) (l := (List.replicate k c).map C4.cells) h.kids (cells4_len _) (by simp) (fun g hg => (h.kids.lt g hg).2)
  refine ⟨an, cn, ak, ck, e1, e2, ?_⟩
  have hT : TzV wr (Any wr) (.mk 7 [] (nmL k) (List.replicate k t)) ⟨7, ⟨#[]⟩, an, (nmL k).length, cn, ak, (List.replicate k t).length, ck⟩ :=
    .mk 7 [] _ _ an cn ak ck (List.replicate k c) (by simp) h1 h2 (fun i h1 h2 => by simp only [List.getElem_replicate]; exact hV)
  rw [show (nmL k).length = k by simp [nmL], List.length_replicate] at hT
  exact hT
theorem wrap97 (k : Nat) (h : k < 100) : IntKind.i64.wrap (97 + (k : Int)) = 97 + (k : Int) := by rw [IntKind.wrap_i64]; omega
theorem wrap97u (k : Nat) (h : k < 100) : IntKind.u8.wrap (97 + (k : Int)) = 97 + (k : Int) := by
  simp only [IntKind.wrap, IntKind.signed, IntKind.bits]
  simp
  omega
theorem catF (c : UInt8) : (⟨#[102]⟩ : ByteArray) ++ ⟨#[c]⟩ = ⟨#[102, c]⟩ := by
  apply ByteArray.ext
  simp [ByteArray.data_append]

/-! ### A row that a loop gathers, behind one cell of one variable -/
structure GRel (w0 : World) (S base : Nat) (ty e : TypeId) (sz m : Nat) (blk : Value → Array Value) (rows : Nat → List Value) (sv : Value) (wr : World) (k : Nat) (v : Value) : Prop where
  slot : sv = .int .i64 k
  le : k ≤ m
  at_ : wr.heap[S]? = some (.cells (blk v) ty (0, 0))
  row : wr.ownsRow base e sz v k (rows k)
  only : Only S w0 wr
structure GApp (w0 : World) (S base : Nat) (ty e : TypeId) (sz : Nat) (blk : Value → Array Value) (rows : Nat → List Value) (w3 : World) (k : Nat) (v v' : Value) : Prop where
  at_ : w3.heap[S]? = some (.cells (blk v) ty (0, 0))
  row : w3.ownsRow base e sz v' (k + 1) (rows (k + 1))
  only : Only S w0 w3
theorem GRel.start {w0 : World} {S base : Nat} {ty e : TypeId} {sz m : Nat} {blk : Value → Array Value} {rows : Nat → List Value} (h : w0.heap[S]? = some (.cells (blk (.slice none 0 0)) ty (0, 0))) (hr : rows 0 = []) : GRel w0 S base ty e sz m blk rows (.int .i64 0) w0 0 (.slice none 0 0) :=
  ⟨rfl, Nat.zero_le _, h, hr ▸ World.ownsRow_nil _ _ _ _, Only.refl _ _⟩
theorem GRel.app {w0 wr W w3 : World} {S base : Nat} {ty e : TypeId} {sz m : Nat} {blk : Value → Array Value} {rows : Nat → List Value} {sv : Value} {k : Nat} {v v' : Value} {news : List Value} (h : GRel w0 S base ty e sz m blk rows sv wr k v) (hS : S < base) (hb : w0.heap.size ≤ base) (hw : Below wr.heap.size wr W)
    (hown : w3.ownsRow base e sz v' (k + 1) (rows k ++ news)) (hn : rows k ++ news = rows (k + 1)) (hgr : W.grownBy w3 v.ownBlock) : GApp w0 S base ty e sz blk rows w3 k v v' := by
  have hz := (Array.getElem?_eq_some_iff.1 h.at_).1
  have hz2 := hw.size
  refine ⟨(hgr.block S (by omega) (fun e => by have := (h.row.lt S e.symm).1; omega)).trans ((hw.block S hz).trans h.at_), hn ▸ hown, ?_⟩
  exact (h.only.trans (Only.of_below hw)).grown hgr (fun g e => .inr (by have := (h.row.lt g e).1; omega))
theorem set_gen {w : World} {b : Nat} {t : TypeId} {cs : Array Value} (h : w.heap[b]? = some (.cells cs t (0, 0))) (p : Nat) (v : Value) : (w.setCell ⟨b, p, none⟩ v).heap[b]? = some (.cells (cs.setIfInBounds p v) t (0, 0)) := by
  unfold World.setCell; simp [Array.getElem?_modify, h]
theorem GApp.next {w0 w3 : World} {S base : Nat} {ty e : TypeId} {sz m : Nat} {blk : Value → Array Value} {rows : Nat → List Value} {sv : Value} {k : Nat} {v v' : Value} (h : GApp w0 S base ty e sz blk rows w3 k v v') (p : Nat) (hp : ∀ u u', (blk u).setIfInBounds p u' = blk u') (hs : sv = .int .i64 ((k + 1 : Nat) : Int)) (hk : k + 1 ≤ m) (hS : S < base) :
    GRel w0 S base ty e sz m blk rows sv (w3.setCell ⟨S, p, none⟩ v') (k + 1) v' := by
  have hO : Only S w3 (w3.setCell ⟨S, p, none⟩ v') := (Only.refl _ _).setCell _ _
  refine ⟨hs, hk, by rw [set_gen h.at_, hp], h.row.kept hO ?_, h.only.trans hO⟩
  cases hv : v'.ownBlock with
  | none => exact .inl rfl
  | some g => exact .inr fun e => by cases e; have := (h.row.lt _ hv).1; omega
def nmdV (c : C4) (k : Nat) : List Value := ((List.range k).map fun i => ([upper i], c)).flatMap encZ
theorem nmdV_succ (c : C4) (k : Nat) : nmdV c k ++ [.string ⟨#[upper k]⟩, .int .i64 c.k, .string c.n, .slice c.an c.ln c.cn, .slice c.ak c.lk c.ck] = nmdV c (k + 1) := by simp [nmdV, List.range_succ, List.flatMap_append, encZ, str]
def sgL (c : C4) (k : Nat) : List (List UInt8 × G6) := (List.range k).map fun i => ([102, lower i], ⟨none, 0, 0, c⟩)
def sgV (c : C4) (k : Nat) : List Value := (sgL c k).flatMap encG
theorem sgV_succ (c : C4) (k : Nat) : sgV c k ++ [.string ⟨#[102, lower k]⟩, .slice none 0 0, .int .i64 c.k, .string c.n, .slice c.an c.ln c.cn, .slice c.ak c.lk c.ck] = sgV c (k + 1) := by simp [sgV, sgL, List.range_succ, List.flatMap_append, encG, str]
theorem kdV_succ (c : C4) (k : Nat) : kdV c k ++ c.cells = kdV c (k + 1) := by simp [kdV, List.replicate_succ', List.flatMap_append]
/-- What lies there from the loop of the functions on: s's block is S; B: what lies behind it is the functions' own. -/
structure MSt (wb X : World) (S B : Nat) (cw : C4) (ta : Option Addr) (tc : Nat) (v : Value) (n : Nat) (xs : List Value) : Prop where
  low : Below S wb X
  at_ : X.heap[S]? = some (.cells #[.int .i64 2, .string ⟨#[]⟩, .slice none 0 0, .slice none 0 0, .slice ta 5 tc, v] 29 (0, 0))
  types : X.ownsRow (S + 1) 44 5 (.slice ta 5 tc) 5 (nmdV cw 5)
  tlt : ∀ g, (Value.slice ta 5 tc).ownBlock = some g → g < B
  sigs : X.ownsRow B 46 6 v n xs
  hS : S < B
  hB : B ≤ X.heap.size
theorem MSt.step {wb X Y : World} {S B : Nat} {cw : C4} {ta : Option Addr} {tc : Nat} {v : Value} {n : Nat} {xs : List Value} {r : Option Nat} (h : MSt wb X S B cw ta tc v n xs) (hg : X.grownBy Y r) (hr : ∀ g, r = some g → B ≤ g ∧ v.ownBlock ≠ some g) : MSt wb Y S B cw ta tc v n xs := by
  have hS := h.hS
  have hB := h.hB
  refine ⟨h.low.trans (below_grown hg (fun g e => by have := (hr g e).1; omega) (by omega)), (hg.block S (by omega) (fun e => by have := (hr _ e.symm).1; omega)).trans h.at_, h.types.kept hg ?_, h.tlt, h.sigs.kept hg ?_, hS, Nat.le_trans hB hg.size⟩
  · cases hv : (Value.slice ta 5 tc).ownBlock with
    | none => exact .inl rfl
    | some g => exact .inr fun e => by have := (hr _ e.symm).1; have := h.tlt g hv; omega
  · cases hv : v.ownBlock with
    | none => exact .inl rfl
    | some g => exact .inr fun e => (hr _ e.symm).2 hv
theorem MSt.app {wb X W w3 : World} {S B : Nat} {cw : C4} {ta : Option Addr} {tc : Nat} {v v' : Value} {n : Nat} {xs news : List Value} (h : MSt wb X S B cw ta tc v n xs) (hw : Below X.heap.size X W) (hown : w3.ownsRow B 46 6 v' (n + 1) (xs ++ news)) (hgr : W.grownBy w3 v.ownBlock) :
    w3.heap[S]? = some (.cells #[.int .i64 2, .string ⟨#[]⟩, .slice none 0 0, .slice none 0 0, .slice ta 5 tc, v] 29 (0, 0)) ∧ MSt wb (w3.setCell ⟨S, 5, none⟩ v') S B cw ta tc v' (n + 1) (xs ++ news) := by
  have hS := h.hS
  have hB := h.hB
  have hz := hw.size
  have h1 := h.step (Only.of_below (rb := B + X.heap.size + W.heap.size + 1) hw) (fun g e => by cases e; exact ⟨by omega, fun e => by have := (h.sigs.lt _ e).2; omega⟩)
  have hlt := fun g (e : v.ownBlock = some g) => (h.sigs.lt g e).1
  have h2 := (hgr.block S (by omega) (fun e => by have := hlt _ e.symm; omega)).trans h1.at_
  have ht := h1.types.kept hgr (by
    cases hv : (Value.slice ta 5 tc).ownBlock with
    | none => exact .inl rfl
    | some g => exact .inr fun e => by have := hlt _ e.symm; have := h.tlt g hv; omega)
  have hO : Only S w3 (w3.setCell ⟨S, 5, none⟩ v') := (Only.refl _ _).setCell _ _
  have hz3 := hgr.size
  refine ⟨h2, (h1.low.trans (below_grown hgr (fun g e => by have := hlt g e; omega) (by omega))).trans (hO.below (Nat.le_refl _) (by omega)), set_gen h2 5 v', ht.kept hO ?_, h.tlt, hown.kept hO ?_, hS, by have := hO.size; omega⟩
  · cases hv : (Value.slice ta 5 tc).ownBlock with
    | none => exact .inl rfl
    | some g => exact .inr fun e => by cases e; have := (ht.lt _ hv).1; omega
  · cases hv : v'.ownBlock with
    | none => exact .inl rfl
    | some g => exact .inr fun e => by cases e; have := (hown.lt _ hv).1; omega
def oF (c : UInt8) : Obj := .cells #[.string ⟨#[c]⟩, .slice none 0 0, .int .i64 2, .string ⟨#[]⟩, .slice none 0 0, .slice none 0 0] 46
theorem own_ne {x v : Value} (h : ApartV x v) : x.ownBlock = none ∨ x.ownBlock ≠ v.ownBlock := by
  cases hx : x.ownBlock with
  | none => exact .inl rfl
  | some g => exact .inr fun e => h g hx e.symm
theorem own_nb {x : Value} {b : Nat} (h : ∀ g, x.ownBlock = some g → g ≠ b) : x.ownBlock = none ∨ x.ownBlock ≠ some b := by
  cases hx : x.ownBlock with
  | none => exact .inl rfl
  | some _ => exact .inr fun e => h _ hx (by cases e; rfl)
theorem MSt.sigsZ {wb wc wd : World} {S B : Nat} {cw : C4} {ta : Option Addr} {tc : Nat} {v v0 : Value} {k m : Nat} {blk : Value → Array Value} {rows : Nat → List Value} {sv : Value} (h : MSt wb wc S B cw ta tc v0 0 []) (g : GRel wc S B 29 46 6 m blk rows sv wd k v) (hat : wd.heap[S]? = some (.cells #[.int .i64 2, .string ⟨#[]⟩, .slice none 0 0, .slice none 0 0, .slice ta 5 tc, v] 29 (0, 0))) (hB : B = wc.heap.size) : MSt wb wd S B cw ta tc v k (rows k) := by
  have hS := h.hS
  have hz := g.only.size
  refine ⟨h.low.trans (g.only.below (Nat.le_refl _) (by omega)), hat, h.types.kept g.only ?_, h.tlt, g.row, hS, by omega⟩
  cases hv : (Value.slice ta 5 tc).ownBlock with
  | none => exact .inl rfl
  | some x => exact .inr fun e => by cases e; have := (h.types.lt _ hv).1; omega
theorem TzV.low {w w' : World} {t : Tz} {c : C4} {S : Nat} (h : TzV w (Any w) t c) (hS : S = w.heap.size) (hb : Below S w w') : TzV w' (Any w') t c :=
  h.keep (fun _ hg => Nat.lt_of_lt_of_le hg hb.size) (fun g hg => hb.block g (hS ▸ hg))
theorem kd_row {X : World} {base n c : Nat} {a : Option Addr} (h : X.ownsRow base 25 4 (.slice a n c) n (kdV cI n)) : RowV X (Any X) a 4 ((List.replicate n cI).map C4.cells) := by
  obtain ⟨a', c', e, hr⟩ := RowV.own (S := Any X) (l := (List.replicate n cI).map C4.cells) h (cells4_len _) (by simp) (fun g hg => (h.lt g hg).2)
  cases e
  exact hr
/-- Check, of what was built. -/
theorem many_check {wb X : World} {S B b1 b2 : Nat} {cw c8 : C4} {ta fa ha : Option Addr} {tc fc hc m vd : Nat} {vb : Option Addr} (h : MSt wb X S B cw ta tc (.slice vb (4 + 1) vd) (4 + 1) ((sgV c8 3 ++ [.string ⟨#[103]⟩, .slice fa 4 fc, .int .i64 2, .string ⟨#[]⟩, .slice none 0 0, .slice none 0 0]) ++ [.string ⟨#[104]⟩, .slice ha m hc, .int .i64 2, .string ⟨#[]⟩, .slice none 0 0, .slice none 0 0]))
    (hP : X.ownsRow b1 25 4 (.slice fa 4 fc) 4 (kdV cI 4)) (hQ : X.ownsRow b2 25 4 (.slice ha m hc) m (kdV cI m)) (h8 : TzV wb (Any wb) eightT c8) (hw : TzV wb (Any wb) wideT cw) (hS : S = wb.heap.size) (hm : m < 4) :
    Calls Try.prog 16 #[.agg #[.int .i64 2, .string ⟨#[]⟩, .slice none 0 0, .slice none 0 0, .slice ta 5 tc, .slice vb 5 vd]] X fun e w' => e = .returned (.int .i64 (if m ≤ 1 then 0 else 3)) ∧ Below X.heap.size X w' := by
  have h8' := h8.low hS h.low
  have hw' := hw.low hS h.low
  have hN : NmsV X (Any X) (manyS m).types ta ((List.range 5).map fun i => ([upper i], cw)) :=
    NmsV.sl h.types (by simp [manyS]) (fun i h1 h2 => by
      simp only [manyS, List.getElem_map, List.getElem_range]
      exact ⟨trivial, hw'⟩)
  have hown := h.sigs
  have eq : (sgV c8 3 ++ [.string ⟨#[103]⟩, .slice fa 4 fc, .int .i64 2, .string ⟨#[]⟩, .slice none 0 0, .slice none 0 0]) ++ [.string ⟨#[104]⟩, .slice ha m hc, .int .i64 2, .string ⟨#[]⟩, .slice none 0 0, .slice none 0 0] = (sgL c8 3 ++ [(([103], ⟨fa, 4, fc, cI⟩) : List UInt8 × G6)] ++ [(([104], ⟨ha, m, hc, cI⟩) : List UInt8 × G6)]).flatMap encG := by
    simp [List.flatMap_append, sgV, encG, str, cI]
  rw [eq] at hown
  have hG : SgsV X (Any X) (manyS m).sigs vb (sgL c8 3 ++ [([103], ⟨fa, 4, fc, cI⟩)] ++ [([104], ⟨ha, m, hc, cI⟩)]) :=
    SgsV.sl hown (by simp [manyS, sgL]) (fun i h1 h2 => by
      match i, h1 with
      | 0, _ => exact SgV.bare _ h8'
      | 1, _ => exact SgV.bare _ h8'
      | 2, _ => exact SgV.bare _ h8'
      | 3, _ => exact ⟨rfl, rfl, ⟨List.replicate 4 cI, rfl, kd_row hP, fun j h3 h4 => by
          simp only [List.getElem_replicate]
          exact (List.getElem_replicate (α := Tz) .. : (List.replicate 4 zI)[j]'(by simpa using h4) = zI) ▸ TzV.leaf _ _ 2 []⟩, TzV.leaf _ _ 2 []⟩
      | 4, _ => exact ⟨rfl, by show m = (List.replicate m zI).length; simp, ⟨List.replicate m cI, by show _ = (List.replicate m zI).length; simp, kd_row hQ, fun j h3 h4 => by
          simp only [List.getElem_replicate]
          exact (List.getElem_replicate (α := Tz) .. : (List.replicate m zI)[j]'(by simpa using h4) = zI) ▸ TzV.leaf _ _ 2 []⟩, TzV.leaf _ _ 2 []⟩)
  exact Check_at (manyS m) tc vd (SzV.build (TzV.leaf _ _ 2 []) hN hG) rfl (many_is hm).1 (by simp [manyS]) (many_is hm).2
end Sp
end Go.Proofs.Ytjjpjkkaogfoaaa
