/- KindsOpts' drawn statement: a schema out of two types, one of them made in the statement. Written by gen_jopt.py. -/
import Derived.Test.YtdophmlnmbcjlaaT36
import Derived.Test.YtdophmlnmbcjlaaT23
import Derived.Test.YtdophmlnmbcjlaaT17
import Derived.Test.YtdophmlnmbcjlaaT46
import Derived.Test.YtdophmlnmbcjlaaT45
import Derived.StillTailTactics
namespace Go.Proofs.Ytdophmlnmbcjlaa
open Go.RowKit
namespace Sp
open Sc
set_option maxRecDepth 100000
/-- What the statement makes: the blocks of the map's kid, the parameter, the function, the schema; the result's type. -/
structure Ox where
  a1 : Nat
  a4 : Nat
  a8 : Nat
  a10 : Nat
  cy : C4
def blkJ (W0 : World) (l10 : Bool) (x : Ox) (g : Nat) : Prop := W0.heap.size ≤ g ∧ (l10 = true → g ≠ x.a10)
structure OpM (W0 : World) (cx : C4) (Y : Tz) (l1 l4 l6 l8 l10 l11 : Bool) (x : Ox) (v : World) : Prop where
  below : Below W0.heap.size W0 v
  b1 : l1 = true → blkJ W0 l10 x x.a1 ∧ v.heap[x.a1]? = some (.cells #[.int .i64 cx.k, .string cx.n, .slice cx.an cx.ln cx.cn, .slice cx.ak cx.lk cx.ck] 30 (0, 0))
  b4 : l4 = true → blkJ W0 l10 x x.a4 ∧ v.heap[x.a4]? = some (.cells #[.int .i64 3, .string ⟨#[]⟩, .slice none 0 0, .slice none 0 0] 30 (0, 0))
  t6 : l6 = true → TzV v (fun g => blkJ W0 l10 x g ∧ g < v.heap.size) Y x.cy
  b8 : l8 = true → blkJ W0 l10 x x.a8 ∧ v.heap[x.a8]? = some (.cells #[.string ⟨#[102]⟩, .slice (some ⟨x.a4, 0, none⟩) 1 1, .int .i64 x.cy.k, .string x.cy.n, .slice x.cy.an x.cy.ln x.cy.cn, .slice x.cy.ak x.cy.lk x.cy.ck] 46 (0, 0))
  b10 : l10 = true → W0.heap.size ≤ x.a10 ∧ v.heap[x.a10]? = some (.cells (if l11 then #[.int .i64 5, .string ⟨#[]⟩, .slice none 0 0, .slice (some ⟨x.a1, 0, none⟩) 1 1, .slice none 0 0, .slice (some ⟨x.a8, 0, none⟩) 1 1] else #[.int .i64 0, .string ⟨#[]⟩, .slice none 0 0, .slice none 0 0, .slice none 0 0, .slice none 0 0]) 34 (0, 0))
def put6 (v : World) (b a1 a8 : Nat) : World := (((((v.setCell ⟨b, 0, none⟩ (.int .i64 5)).setCell ⟨b, 1, none⟩ (.string ⟨#[]⟩)).setCell ⟨b, 2, none⟩ (.slice none 0 0)).setCell ⟨b, 3, none⟩ (.slice (some ⟨a1, 0, none⟩) 1 1)).setCell ⟨b, 4, none⟩ (.slice none 0 0)).setCell ⟨b, 5, none⟩ (.slice (some ⟨a8, 0, none⟩) 1 1)
section
variable {W0 v v' : World} {cx : C4} {Y : Tz} {l1 l4 l6 l8 l10 l11 : Bool} {x : Ox} {c : C4}
theorem blk_ltJ {w : World} {b : Nat} {o : Obj} (h : w.heap[b]? = some o) : b < w.heap.size := (Array.getElem?_eq_some_iff.1 h).1
theorem rep_getDJ (n i : Nat) : (Array.replicate n false).getD i false = false := by
  rw [Array.getD_eq_getD_getElem?]
  by_cases hi : i < n <;> simp [hi]
theorem OpM.start (x : Ox) : OpM W0 cx Y false false false false false false x W0 := ⟨Below.refl _ _, (fun h => by cases h), (fun h => by cases h), (fun h => by cases h), (fun h => by cases h), (fun h => by cases h)⟩
theorem OpM.grow (h : OpM W0 cx Y l1 l4 l6 l8 l10 l11 x v) (hb : Below v.heap.size v v') : OpM W0 cx Y l1 l4 l6 l8 l10 l11 x v' :=
  ⟨h.below.trans (hb.mono h.below.size), fun e => ⟨(h.b1 e).1, (hb.block _ (blk_ltJ (h.b1 e).2)).trans (h.b1 e).2⟩, fun e => ⟨(h.b4 e).1, (hb.block _ (blk_ltJ (h.b4 e).2)).trans (h.b4 e).2⟩,
    fun e => (h.t6 e).keep (fun _ hg => ⟨hg.1, Nat.lt_of_lt_of_le hg.2 hb.size⟩) (fun g hg => hb.block g hg.2), fun e => ⟨(h.b8 e).1, (hb.block _ (blk_ltJ (h.b8 e).2)).trans (h.b8 e).2⟩, fun e => ⟨(h.b10 e).1, (hb.block _ (blk_ltJ (h.b10 e).2)).trans (h.b10 e).2⟩⟩
theorem below_one (v : World) (o : Obj) : Below v.heap.size v (v.alloc o) := (Below.refl _ _).alloc (Nat.le_refl _) _
theorem OpM.new (h : OpM W0 cx Y l1 l4 l6 l8 l10 l11 x v) : W0.heap.size ≤ v.heap.size ∧ (l10 = true → v.heap.size ≠ x.a10) := ⟨h.below.size, fun e => by have := blk_ltJ (h.b10 e).2; omega⟩
theorem OpM.make1 (h : OpM W0 cx Y false l4 l6 l8 l10 false x v) : OpM W0 cx Y true l4 l6 l8 l10 false ⟨v.heap.size, x.a4, x.a8, x.a10, x.cy⟩ (v.alloc (.cells #[.int .i64 cx.k, .string cx.n, .slice cx.an cx.ln cx.cn, .slice cx.ak cx.lk cx.ck] 30)) := by
  have g := h.grow (below_one v (.cells #[.int .i64 cx.k, .string cx.n, .slice cx.an cx.ln cx.cn, .slice cx.ak cx.lk cx.ck] 30))
  exact ⟨g.below, fun _ => ⟨h.new, heap_alloc_new v _⟩, g.b4, g.t6, g.b8, g.b10⟩
theorem OpM.make4 (h : OpM W0 cx Y l1 false l6 false l10 false x v) : OpM W0 cx Y l1 true l6 false l10 false ⟨x.a1, v.heap.size, x.a8, x.a10, x.cy⟩ (v.alloc (.cells #[.int .i64 3, .string ⟨#[]⟩, .slice none 0 0, .slice none 0 0] 30)) := by
  have g := h.grow (below_one v (.cells #[.int .i64 3, .string ⟨#[]⟩, .slice none 0 0, .slice none 0 0] 30))
  exact ⟨g.below, g.b1, fun _ => ⟨h.new, heap_alloc_new v _⟩, g.t6, (fun e => by cases e), g.b10⟩
theorem OpM.call6 (h : OpM W0 cx Y l1 l4 false false l10 false x v) (hk : TzV v' (New v.heap.size v') Y c) (hb : Below v.heap.size v v') : OpM W0 cx Y l1 l4 true false l10 false ⟨x.a1, x.a4, x.a8, x.a10, c⟩ v' := by
  have g := h.grow hb
  refine ⟨g.below, g.b1, g.b4, fun _ => hk.keep (fun g hg => ⟨⟨Nat.le_trans h.below.size hg.1, fun e => ?_⟩, hg.2⟩) (fun _ _ => rfl), (fun e => by cases e), g.b10⟩
  have := blk_ltJ (h.b10 e).2
  have := hg.1
  show g ≠ x.a10
  omega
theorem OpM.make8 (h : OpM W0 cx Y l1 true true false l10 false x v) : OpM W0 cx Y l1 true true true l10 false ⟨x.a1, x.a4, v.heap.size, x.a10, x.cy⟩ (v.alloc (.cells #[.string ⟨#[102]⟩, .slice (some ⟨x.a4, 0, none⟩) 1 1, .int .i64 x.cy.k, .string x.cy.n, .slice x.cy.an x.cy.ln x.cy.cn, .slice x.cy.ak x.cy.lk x.cy.ck] 46)) := by
  have g := h.grow (below_one v (.cells #[.string ⟨#[102]⟩, .slice (some ⟨x.a4, 0, none⟩) 1 1, .int .i64 x.cy.k, .string x.cy.n, .slice x.cy.an x.cy.ln x.cy.cn, .slice x.cy.ak x.cy.lk x.cy.ck] 46))
  exact ⟨g.below, g.b1, g.b4, g.t6, fun _ => ⟨h.new, heap_alloc_new v _⟩, g.b10⟩
theorem OpM.make10 (h : OpM W0 cx Y l1 l4 l6 l8 false false x v) : OpM W0 cx Y l1 l4 l6 l8 true false ⟨x.a1, x.a4, x.a8, v.heap.size, x.cy⟩ (v.alloc (.cells #[.int .i64 0, .string ⟨#[]⟩, .slice none 0 0, .slice none 0 0, .slice none 0 0, .slice none 0 0] 34)) := by
  have g := h.grow (below_one v (.cells #[.int .i64 0, .string ⟨#[]⟩, .slice none 0 0, .slice none 0 0, .slice none 0 0, .slice none 0 0] 34))
  refine ⟨g.below, fun e => ⟨⟨(h.b1 e).1.1, fun _ => ?_⟩, (g.b1 e).2⟩, fun e => ⟨⟨(h.b4 e).1.1, fun _ => ?_⟩, (g.b4 e).2⟩, fun e => (h.t6 e).keep (fun g hg => ⟨⟨hg.1.1, fun _ => ?_⟩, by simp; omega⟩) (fun g hg => (below_one v _).block g hg.2), fun e => ⟨⟨(h.b8 e).1.1, fun _ => ?_⟩, (g.b8 e).2⟩, fun _ => ⟨h.below.size, heap_alloc_new v _⟩⟩
  · have := blk_ltJ (h.b1 e).2; show x.a1 ≠ v.heap.size; omega
  · have := blk_ltJ (h.b4 e).2; show x.a4 ≠ v.heap.size; omega
  · have := hg.2; show g ≠ v.heap.size; omega
  · have := blk_ltJ (h.b8 e).2; show x.a8 ≠ v.heap.size; omega
theorem put6_only (v : World) (b a1 a8 : Nat) : Only b v (put6 v b a1 a8) := ((((((Only.refl _ _).setCell _ _).setCell _ _).setCell _ _).setCell _ _).setCell _ _).setCell _ _
theorem put6_at {v : World} {b a1 a8 : Nat} {t : TypeId} {v0 v1 v2 v3 v4 v5 : Value} (h : v.heap[b]? = some (.cells #[v0, v1, v2, v3, v4, v5] t (0, 0))) : (put6 v b a1 a8).heap[b]? = some (.cells #[.int .i64 5, .string ⟨#[]⟩, .slice none 0 0, .slice (some ⟨a1, 0, none⟩) 1 1, .slice none 0 0, .slice (some ⟨a8, 0, none⟩) 1 1] t (0, 0)) := by
  unfold put6 World.setCell; simp [Array.getElem?_modify, h]
theorem OpM.store11 (h : OpM W0 cx Y true true true true true false x v) : OpM W0 cx Y true true true true true true x (put6 v x.a10 x.a1 x.a8) := by
  obtain ⟨hb1, hb2⟩ := h.b10 rfl
  have ho := put6_only v x.a10 x.a1 x.a8
  have hsz : (put6 v x.a10 x.a1 x.a8).heap.size = v.heap.size := by unfold put6; simp
  have hk : ∀ g, g < v.heap.size → g ≠ x.a10 → (put6 v x.a10 x.a1 x.a8).heap[g]? = v.heap[g]? := fun g h1 h2 => ho.block g h1 (fun e => by cases e; exact h2 rfl)
  exact ⟨h.below.trans (ho.below hb1 h.below.size), fun e => ⟨(h.b1 e).1, (hk _ (blk_ltJ (h.b1 e).2) ((h.b1 e).1.2 rfl)).trans (h.b1 e).2⟩, fun e => ⟨(h.b4 e).1, (hk _ (blk_ltJ (h.b4 e).2) ((h.b4 e).1.2 rfl)).trans (h.b4 e).2⟩,
    fun e => (h.t6 e).keep (fun g hg => ⟨hg.1, by rw [hsz]; exact hg.2⟩) (fun g hg => hk g hg.2 (hg.1.2 rfl)), fun e => ⟨(h.b8 e).1, (hk _ (blk_ltJ (h.b8 e).2) ((h.b8 e).1.2 rfl)).trans (h.b8 e).2⟩, fun _ => ⟨hb1, put6_at hb2⟩⟩
end
end Sp
end Go.Proofs.Ytdophmlnmbcjlaa
namespace Go.Proofs.Ytdophmlnmbcjlaa
open Go.RowKit
namespace Sp
open Sc
set_option maxRecDepth 100000
set_option maxHeartbeats 4000000 in
theorem takes_any (s : List UInt8) (w : World) (hb : builtinB s = true) :
    Calls Try.prog 48 #[.string ⟨s.toArray⟩] w fun e w' => e = .returned (.int .i64 (takesJ s : Nat)) ∧ w = w' := by
  rcases Builtin_cases s hb with rfl | rfl | rfl | rfl | rfl | rfl | rfl | rfl | rfl | rfl | rfl | rfl | rfl | rfl | rfl | rfl | rfl | rfl | rfl | rfl | rfl | rfl | rfl
  all_goals
    go_enter Try.func48, Try.ntmps48
    go_wp2
    go_ret
    exact ⟨rfl, rfl⟩
set_option maxHeartbeats 4000000 in
theorem opened_any (i : Nat) (w : World) (tb rb nb mb sb m : Nat) (ty nu : Value) (T : List Kz) (N : List NN) (hT : TabV w tb rb nb mb sb m ty nu T) (hN : TxtV w mb (encNN N)) (hO : OpL T N) (hi : i < T.length) :
    Calls Try.prog 49 #[.pointer (some ⟨tb, 0, none⟩), .int .i64 (i : Nat)] w fun e w' => ∃ an ln cn ak ck, e = .returned (.agg #[.int .i64 (opnK T N i).kind, .string ⟨(opnK T N i).name.toArray⟩, .slice an ln cn, .slice ak (opnK T N i).kids.length ck]) ∧
      RowV w' (fun g => w.heap.size ≤ g ∧ g < w'.heap.size) ak 1 (idsL (opnK T N i).kids) ∧ Below w.heap.size w w' := by
  have hrl := hO.lt i hi
  have hr9 := hO.ne i hi
  rw [opnK_at hO hi]
  obtain ⟨r, hr⟩ : ∃ r, openK T N 13 i = r := ⟨_, rfl⟩
  simp only [hr] at hrl hr9 ⊢
  obtain ⟨W0, hW0⟩ : ∃ W0, W0 = w.alloc (.cells nodZ 59) := ⟨_, rfl⟩
  have hz0 : W0.heap.size = w.heap.size + 1 := by rw [hW0]; simp
  have hb0 : Below w.heap.size w W0 := by rw [hW0]; exact (Below.refl _ _).alloc (Nat.le_refl _) _
  have hn0 : W0.heap[w.heap.size]? = some (.cells nodZ 59 (0, 0)) := by rw [hW0]; exact heap_alloc_new w _
  have CO := topen_any i 13 r W0 tb rb nb mb sb m ty nu T N (hT.below hb0) (hN.below hb0) hi hr hr9 hO.look
  have CN := fun W (hW : Below w.heap.size w W) => tnode_in r W tb rb nb mb sb m ty nu T (hT.below hW) hrl
  have HCO := Lib.hid CO; have HCN := Lib.hid CN; have HN0 := Lib.hid hn0; have HB0 := Lib.hid hb0; have HW0 := Lib.hid hW0
  generalize T[r] = k at *
  clear CO CN hn0 hb0 hW0 hT hN hr hr9 hO hrl
  go_enter Try.func49, Try.ntmps49
  go_upto_region 1 with fail
  rw [show w.alloc (.cells #[.int .i64 0, .string ⟨#[]⟩, .slice none 0 0, .slice none 0 0] 59) = W0 from HW0.out.symm]
  go_upto_region 4 with (go_at_call 75; (refine HCO.out.mono ?_); rintro e w1 ⟨rfl, b1⟩; have hz1 := b1.size; have HB1 := Lib.hid b1; clear b1)
  go_upto_region 5 with (go_at_call 21; (refine (HCN.out w1 (HB0.out.trans (HB1.out.mono (by omega)))).mono ?_); rintro e w2 ⟨an, cn, ak, ck, rfl, r1, r2, b2⟩; have hz2 := b2.size; have HR2 := Lib.hid r2; have HB2 := Lib.hid b2; clear r1 r2 b2)
  have hv2 : w2.heap[w.heap.size]? = some (.cells nodZ 59 (0, 0)) := (HB2.out.block w.heap.size (by omega)).trans ((HB1.out.block w.heap.size (by omega)).trans HN0.out)
  obtain ⟨W3, hW3⟩ : ∃ W3, W3 = w2.alloc (.cells #[.int .i64 k.kind, .string ⟨k.name.toArray⟩, .slice an k.names.length cn, .slice ak k.kids.length ck] 59) := ⟨_, rfl⟩
  have hb3 : Below w2.heap.size w2 W3 := by rw [hW3]; exact (Below.refl _ _).alloc (Nat.le_refl _) _
  have hv3 : W3.heap[w.heap.size]? = some (.cells nodZ 59 (0, 0)) := (hb3.block _ (by omega)).trans hv2
  have hn3 : W3.heap[w2.heap.size]? = some (.cells #[.int .i64 k.kind, .string ⟨k.name.toArray⟩, .slice an k.names.length cn, .slice ak k.kids.length ck] 59 (0, 0)) := by rw [hW3]; exact heap_alloc_new w2 _
  rw [← hW3]
  have hz3 : W3.heap.size = w2.heap.size + 1 := by rw [hW3]; simp
  obtain ⟨⟨y0, y1, y2, y3⟩, ⟨f0, f1, f2, f3⟩⟩ := four_blk hv3
  obtain ⟨⟨x0, x1, x2, x3⟩, -⟩ := four_blk hn3
  have HB3 := Lib.hid hb3; have HV3 := Lib.hid hv3
  clear hW3 hb3 hv3 hn3 hv2
  go_wp2
  obtain ⟨W2, hW2⟩ : ∃ W2, W2 = (((W3.setCell ⟨w.heap.size, 0, none⟩ (.int .i64 k.kind)).setCell ⟨w.heap.size, 1, none⟩ (.string ⟨k.name.toArray⟩)).setCell ⟨w.heap.size, 2, none⟩ (.slice an k.names.length cn)).setCell ⟨w.heap.size, 3, none⟩ (.slice ak k.kids.length ck) := ⟨_, rfl⟩
  have hx2 : W2.heap[w.heap.size]? = some (.cells #[.int .i64 k.kind, .string ⟨k.name.toArray⟩, .slice an k.names.length cn, .slice ak k.kids.length ck] 59 (0, 0)) := by
    rw [hW2]
    exact set_four HV3.out
  have hk2 : Keeps (fun g => g = w.heap.size) W3 W2 := by rw [hW2]; exact ((((Keeps.refl (fun g => g = w.heap.size) _).setCell 0 _ rfl).setCell 1 _ rfl).setCell 2 _ rfl).setCell 3 _ rfl
  rw [← hW2]
  have hz2' := hk2.size
  refine bodyPost_ret (v := .agg #[.int .i64 k.kind, .string ⟨k.name.toArray⟩, .slice an k.names.length cn, .slice ak k.kids.length ck]) (results_cell_row rfl _ W2 w.heap.size 59 _ (0, 0) _ rfl hx2 Try.underlying59 rfl (by kernel_rfl)) rfl ?_
  exact ⟨an, k.names.length, cn, ak, ck, rfl, HR2.out.keep (fun g hg => ⟨by have := hg.1; omega, by have := hg.2; omega⟩) (fun g hg => (hk2.block g (by have := hg.2; omega) (by have := hg.1; omega)).trans (HB3.out.block g hg.2)),
    HB0.out.trans ((HB1.out.mono (by omega)).trans ((HB2.out.mono (by omega)).trans ((HB3.out.mono (by omega)).trans (hk2.below (by omega) (fun g e => by omega)))))⟩
end Sp
end Go.Proofs.Ytdophmlnmbcjlaa
namespace Go.Proofs.Ytdophmlnmbcjlaa
open Go.RowKit
namespace Sp
open Sc
set_option maxRecDepth 100000
/-- What a builtin function is given, in memory: the table, the numbers, the first one opened, the second one's kind. -/
structure GivV (w : World) (gb tb : Nat) (aa ak : Option Addr) (ca ck : Nat) (l : List Nat) (ka : Int) (kids : List Nat) (kb : Int) : Prop where
  c0 : w.cell? ⟨gb, 0, none⟩ = some (.pointer (some ⟨tb, 0, none⟩))
  c1 : w.cell? ⟨gb, 1, none⟩ = some (.slice aa l.length ca)
  c2 : w.cell? ⟨gb, 2, none⟩ = some (.int .i64 ka)
  c5 : w.cell? ⟨gb, 5, none⟩ = some (.slice ak kids.length ck)
  c6 : w.cell? ⟨gb, 6, none⟩ = some (.int .i64 kb)
  ra : RowV w (Any w) aa 1 (idsL l)
  rk : RowV w (Any w) ak 1 (idsL kids)
theorem bel_drews {w : World} {n : Nat} : Below w.heap.size w (w.drewN n) := have h := Below.refl w.heap.size w; ⟨h.os, h.tape, h.output, h.size, h.block⟩
theorem bel_drews2 {w : World} {n k : Nat} : Below w.heap.size w ((w.drewN n).drewN k) := have h := Below.refl w.heap.size w; ⟨h.os, h.tape, h.output, h.size, h.block⟩
end Sp
end Go.Proofs.Ytdophmlnmbcjlaa
namespace Go.Proofs.Ytdophmlnmbcjlaa
open Go.RowKit
namespace Sp
open Sc
set_option maxRecDepth 100000
set_option maxHeartbeats 4000000 in
theorem fits_and (w : World) (gb tb : Nat) (T : List Kz) (N : List NN) (l : List Nat) (a b : Kz) (aa ak : Option Addr) (ca ck : Nat) (h : GivV w gb tb aa ak ca ck l a.kind a.kids b.kind) (y : Nat) :
    Calls Try.prog 50 #[.pointer (some ⟨gb, 0, none⟩), .string ⟨#[97, 110, 100]⟩] w fun e w' => e = .returned (.bool (fitsJ 0 T N y a b)) ∧ Below w.heap.size w w' := by
  obtain ⟨ka, na, nas, kids⟩ := a
  obtain ⟨kb, hb⟩ : ∃ kb, b.kind = kb := ⟨_, rfl⟩
  rw [hb] at h
  dsimp only at h
  have c0 := h.c0; have c1 := h.c1; have c2 := h.c2; have c5 := h.c5; have c6 := h.c6
  have HB := Lib.hid hb
  clear h hb
  go_enter Try.func50, Try.ntmps50
  go_upto_region 1 with fail
  go_quiet (fail)
  go_upto_region 26 with fail
  by_cases x0 : kb = 1
  · subst x0
    by_cases x1 : ka = 1
    · subst x1
      have hv : fitsJ 0 T N y ⟨1, na, nas, kids⟩ b = true := by simp [fitsJ, HB.out, *]
      have HV := Lib.hid hv
      clear hv
      go_wp2
      go_ret
      exact ⟨(by rw [HV.out]; rfl), bel_drews⟩
    · have x1n : (ka == 1) = false := by simpa using x1
      have hv : fitsJ 0 T N y ⟨ka, na, nas, kids⟩ b = false := by simp [fitsJ, HB.out, *]
      have HV := Lib.hid hv
      clear hv
      go_wp2
      go_ret
      exact ⟨(by rw [HV.out]; rfl), bel_drews⟩
  · have x0n : (kb == 1) = false := by simpa using x0
    have hv : fitsJ 0 T N y ⟨ka, na, nas, kids⟩ b = false := by simp [fitsJ, HB.out, *]
    have HV := Lib.hid hv
    clear hv
    go_wp2
    go_ret
    exact ⟨(by rw [HV.out]; rfl), bel_drews⟩
set_option maxHeartbeats 4000000 in
theorem fits_or (w : World) (gb tb : Nat) (T : List Kz) (N : List NN) (l : List Nat) (a b : Kz) (aa ak : Option Addr) (ca ck : Nat) (h : GivV w gb tb aa ak ca ck l a.kind a.kids b.kind) (y : Nat) :
    Calls Try.prog 50 #[.pointer (some ⟨gb, 0, none⟩), .string ⟨#[111, 114]⟩] w fun e w' => e = .returned (.bool (fitsJ 0 T N y a b)) ∧ Below w.heap.size w w' := by
  obtain ⟨ka, na, nas, kids⟩ := a
  obtain ⟨kb, hb⟩ : ∃ kb, b.kind = kb := ⟨_, rfl⟩
  rw [hb] at h
  dsimp only at h
  have c0 := h.c0; have c1 := h.c1; have c2 := h.c2; have c5 := h.c5; have c6 := h.c6
  have HB := Lib.hid hb
  clear h hb
  go_enter Try.func50, Try.ntmps50
  go_upto_region 1 with fail
  go_quiet (fail)
  go_upto_region 26 with fail
  by_cases x0 : kb = 1
  · subst x0
    by_cases x1 : ka = 1
    · subst x1
      have hv : fitsJ 0 T N y ⟨1, na, nas, kids⟩ b = true := by simp [fitsJ, HB.out, *]
      have HV := Lib.hid hv
      clear hv
      go_wp2
      go_ret
      exact ⟨(by rw [HV.out]; rfl), bel_drews⟩
    · have x1n : (ka == 1) = false := by simpa using x1
      have hv : fitsJ 0 T N y ⟨ka, na, nas, kids⟩ b = false := by simp [fitsJ, HB.out, *]
      have HV := Lib.hid hv
      clear hv
      go_wp2
      go_ret
      exact ⟨(by rw [HV.out]; rfl), bel_drews⟩
  · have x0n : (kb == 1) = false := by simpa using x0
    have hv : fitsJ 0 T N y ⟨ka, na, nas, kids⟩ b = false := by simp [fitsJ, HB.out, *]
    have HV := Lib.hid hv
    clear hv
    go_wp2
    go_ret
    exact ⟨(by rw [HV.out]; rfl), bel_drews⟩
set_option maxHeartbeats 4000000 in
theorem fits_not (w : World) (gb tb : Nat) (T : List Kz) (N : List NN) (l : List Nat) (a b : Kz) (aa ak : Option Addr) (ca ck : Nat) (h : GivV w gb tb aa ak ca ck l a.kind a.kids b.kind) (y : Nat) :
    Calls Try.prog 50 #[.pointer (some ⟨gb, 0, none⟩), .string ⟨#[110, 111, 116]⟩] w fun e w' => e = .returned (.bool (fitsJ 1 T N y a b)) ∧ Below w.heap.size w w' := by
  obtain ⟨ka, na, nas, kids⟩ := a
  obtain ⟨kb, hb⟩ : ∃ kb, b.kind = kb := ⟨_, rfl⟩
  rw [hb] at h
  dsimp only at h
  have c0 := h.c0; have c1 := h.c1; have c2 := h.c2; have c5 := h.c5; have c6 := h.c6

  clear h hb
  go_enter Try.func50, Try.ntmps50
  go_upto_region 1 with fail
  go_quiet (fail)
  go_upto_region 28 with fail
  by_cases x0 : ka = 1
  · subst x0
    have hv : fitsJ 1 T N y ⟨1, na, nas, kids⟩ b = true := by simp [fitsJ, *]
    have HV := Lib.hid hv
    clear hv
    go_wp2
    go_ret
    exact ⟨(by rw [HV.out]; rfl), bel_drews⟩
  · have x0n : (ka == 1) = false := by simpa using x0
    have hv : fitsJ 1 T N y ⟨ka, na, nas, kids⟩ b = false := by simp [fitsJ, *]
    have HV := Lib.hid hv
    clear hv
    go_wp2
    go_ret
    exact ⟨(by rw [HV.out]; rfl), bel_drews⟩
set_option maxHeartbeats 4000000 in
theorem fits_lt (w : World) (gb tb : Nat) (T : List Kz) (N : List NN) (l : List Nat) (a b : Kz) (aa ak : Option Addr) (ca ck : Nat) (h : GivV w gb tb aa ak ca ck l a.kind a.kids b.kind) (y : Nat) :
    Calls Try.prog 50 #[.pointer (some ⟨gb, 0, none⟩), .string ⟨#[108, 116]⟩] w fun e w' => e = .returned (.bool (fitsJ 2 T N y a b)) ∧ Below w.heap.size w w' := by
  obtain ⟨ka, na, nas, kids⟩ := a
  obtain ⟨kb, hb⟩ : ∃ kb, b.kind = kb := ⟨_, rfl⟩
  rw [hb] at h
  dsimp only at h
  have c0 := h.c0; have c1 := h.c1; have c2 := h.c2; have c5 := h.c5; have c6 := h.c6
  have HB := Lib.hid hb
  clear h hb
  go_enter Try.func50, Try.ntmps50
  go_upto_region 1 with fail
  go_quiet (fail)
  go_upto_region 29 with fail
  by_cases x0 : kb = 2
  · subst x0
    by_cases x1 : ka = 2
    · subst x1
      have hv : fitsJ 2 T N y ⟨2, na, nas, kids⟩ b = true := by simp [fitsJ, HB.out, *]
      have HV := Lib.hid hv
      clear hv
      go_wp2
      go_ret
      exact ⟨(by rw [HV.out]; rfl), bel_drews⟩
    · have x1n : (ka == 2) = false := by simpa using x1
      have hv : fitsJ 2 T N y ⟨ka, na, nas, kids⟩ b = false := by simp [fitsJ, HB.out, *]
      have HV := Lib.hid hv
      clear hv
      go_wp2
      go_ret
      exact ⟨(by rw [HV.out]; rfl), bel_drews⟩
  · have x0n : (kb == 2) = false := by simpa using x0
    have hv : fitsJ 2 T N y ⟨ka, na, nas, kids⟩ b = false := by simp [fitsJ, HB.out, *]
    have HV := Lib.hid hv
    clear hv
    go_wp2
    go_ret
    exact ⟨(by rw [HV.out]; rfl), bel_drews⟩
set_option maxHeartbeats 4000000 in
theorem fits_add (w : World) (gb tb : Nat) (T : List Kz) (N : List NN) (l : List Nat) (a b : Kz) (aa ak : Option Addr) (ca ck : Nat) (h : GivV w gb tb aa ak ca ck l a.kind a.kids b.kind) (y : Nat) :
    Calls Try.prog 50 #[.pointer (some ⟨gb, 0, none⟩), .string ⟨#[97, 100, 100]⟩] w fun e w' => e = .returned (.bool (fitsJ 2 T N y a b)) ∧ Below w.heap.size w w' := by
  obtain ⟨ka, na, nas, kids⟩ := a
  obtain ⟨kb, hb⟩ : ∃ kb, b.kind = kb := ⟨_, rfl⟩
  rw [hb] at h
  dsimp only at h
  have c0 := h.c0; have c1 := h.c1; have c2 := h.c2; have c5 := h.c5; have c6 := h.c6
  have HB := Lib.hid hb
  clear h hb
  go_enter Try.func50, Try.ntmps50
  go_upto_region 1 with fail
  go_quiet (fail)
  go_upto_region 29 with fail
  by_cases x0 : kb = 2
  · subst x0
    by_cases x1 : ka = 2
    · subst x1
      have hv : fitsJ 2 T N y ⟨2, na, nas, kids⟩ b = true := by simp [fitsJ, HB.out, *]
      have HV := Lib.hid hv
      clear hv
      go_wp2
      go_ret
      exact ⟨(by rw [HV.out]; rfl), bel_drews⟩
    · have x1n : (ka == 2) = false := by simpa using x1
      have hv : fitsJ 2 T N y ⟨ka, na, nas, kids⟩ b = false := by simp [fitsJ, HB.out, *]
      have HV := Lib.hid hv
      clear hv
      go_wp2
      go_ret
      exact ⟨(by rw [HV.out]; rfl), bel_drews⟩
  · have x0n : (kb == 2) = false := by simpa using x0
    have hv : fitsJ 2 T N y ⟨ka, na, nas, kids⟩ b = false := by simp [fitsJ, HB.out, *]
    have HV := Lib.hid hv
    clear hv
    go_wp2
    go_ret
    exact ⟨(by rw [HV.out]; rfl), bel_drews⟩
set_option maxHeartbeats 4000000 in
theorem fits_sub (w : World) (gb tb : Nat) (T : List Kz) (N : List NN) (l : List Nat) (a b : Kz) (aa ak : Option Addr) (ca ck : Nat) (h : GivV w gb tb aa ak ca ck l a.kind a.kids b.kind) (y : Nat) :
    Calls Try.prog 50 #[.pointer (some ⟨gb, 0, none⟩), .string ⟨#[115, 117, 98]⟩] w fun e w' => e = .returned (.bool (fitsJ 2 T N y a b)) ∧ Below w.heap.size w w' := by
  obtain ⟨ka, na, nas, kids⟩ := a
  obtain ⟨kb, hb⟩ : ∃ kb, b.kind = kb := ⟨_, rfl⟩
  rw [hb] at h
  dsimp only at h
  have c0 := h.c0; have c1 := h.c1; have c2 := h.c2; have c5 := h.c5; have c6 := h.c6
  have HB := Lib.hid hb
  clear h hb
  go_enter Try.func50, Try.ntmps50
  go_upto_region 1 with fail
  go_quiet (fail)
  go_upto_region 29 with fail
  by_cases x0 : kb = 2
  · subst x0
    by_cases x1 : ka = 2
    · subst x1
      have hv : fitsJ 2 T N y ⟨2, na, nas, kids⟩ b = true := by simp [fitsJ, HB.out, *]
      have HV := Lib.hid hv
      clear hv
      go_wp2
      go_ret
      exact ⟨(by rw [HV.out]; rfl), bel_drews⟩
    · have x1n : (ka == 2) = false := by simpa using x1
      have hv : fitsJ 2 T N y ⟨ka, na, nas, kids⟩ b = false := by simp [fitsJ, HB.out, *]
      have HV := Lib.hid hv
      clear hv
      go_wp2
      go_ret
      exact ⟨(by rw [HV.out]; rfl), bel_drews⟩
  · have x0n : (kb == 2) = false := by simpa using x0
    have hv : fitsJ 2 T N y ⟨ka, na, nas, kids⟩ b = false := by simp [fitsJ, HB.out, *]
    have HV := Lib.hid hv
    clear hv
    go_wp2
    go_ret
    exact ⟨(by rw [HV.out]; rfl), bel_drews⟩
end Sp
end Go.Proofs.Ytdophmlnmbcjlaa
