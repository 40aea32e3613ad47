/- Operands, commands, pipelines in memory; rows of anything that a call gathers. -/
import Derived.Test.YtlfbcaenlifmkaaGreatDoorB10
import Derived.Test.YtlfbcaenlifmkaaGreatDoorB11
import Derived.Deep.LoopGhost
namespace Go.Proofs.YtlfbcaenlifmkaaGreatDoor
open Go.RowKit
namespace Tr
open Sc
/-- The blocks of w are as they were, but for block rb and another one; there may be new ones. -/
structure But (rb : Nat) (o : Option Nat) (w w' : World) : Prop where
  os : w'.os = w.os
  tape : w'.tape = w.tape
  output : w'.output = w.output
  size : w.heap.size ≤ w'.heap.size
  block : ∀ k, k < w.heap.size → k ≠ rb → some k ≠ o → w'.heap[k]? = w.heap[k]?
theorem But.of_grown {rb : Nat} {o : Option Nat} {w w' : World} (h : w.grownBy w' o) : But rb o w w' := ⟨h.os, h.tape, h.output, h.size, fun k hk _ hn => h.block k hk hn⟩
/-- Where the other one is new, it is as if it were not. -/
theorem But.only {rb : Nat} {o : Option Nat} {w0 w w' : World} (h : But rb o w w') (h0 : Only rb w0 w) (ho : ∀ k, o = some k → w0.heap.size ≤ k) : Only rb w0 w' :=
  ⟨h.os.trans h0.os, h.tape.trans h0.tape, h.output.trans h0.output, Nat.le_trans h0.size h.size, fun k hk hn =>
    (h.block k (Nat.lt_of_lt_of_le hk h0.size) (fun e => hn (by rw [e])) (fun e => by have := ho k e.symm; omega)).trans (h0.block k hk hn)⟩
/-- A block of the call's own is written. -/
theorem Only.own {rb b : Nat} {w0 w w' : World} (h0 : Only rb w0 w) (h : Only b w w') (hb : w0.heap.size ≤ b) : Only rb w0 w' :=
  But.only (o := some b) (But.of_grown h) h0 (fun k e => by cases e; exact hb)
/-- A reader stays as it is while a block behind its own is written. -/
theorem Rd.row {w w' : World} {rb : Nat} {r : R} {br : Nat} {a : Option Addr} {c : Nat} (h : Rd w rb r br a c) {o : Option Nat} (hw : w.grownBy w' o) (ho : ∀ k, o = some k → rb < k) : Rd w' rb r br a c := by
  refine ⟨(hw.block _ h.lt (fun e => by have := ho _ e.symm; omega)).trans h.blk, h.cap, h.max, h.sml, ?_⟩
  rcases h.words with e | ⟨g, o', ha, hg, hlt, hc⟩
  · exact .inl e
  · have hb := hw.block g hlt (fun e => by have := ho _ e.symm; omega)
    refine .inr ⟨g, o', ha, hg, Nat.lt_of_lt_of_le hlt hw.size, fun i hi => ?_⟩
    rw [World.cell?_of_block (a := ⟨g, o' + i * 4, none⟩) hb, World.cell?_of_block (a := ⟨g, o' + i * 4 + 1, none⟩) hb, World.cell?_of_block (a := ⟨g, o' + i * 4 + 2, none⟩) hb, World.cell?_of_block (a := ⟨g, o' + i * 4 + 3, none⟩) hb]
    exact hc i hi
theorem RdE.row {w w' : World} {rb : Nat} {r : R} {br : Nat} (h : RdE w rb r br) {o : Option Nat} (hw : w.grownBy w' o) (ho : ∀ k, o = some k → rb < k) : RdE w' rb r br := by
  obtain ⟨a, c, h⟩ := h; exact ⟨a, c, h.row hw ho⟩
/-- The blocks from one number to another. -/
def Span (a b : Nat) (g : Nat) : Prop := a ≤ g ∧ g < b
theorem Span.in {a b a' b' : Nat} (h1 : a' ≤ a) (h2 : b ≤ b') (g : Nat) (h : Span a b g) : Span a' b' g := ⟨Nat.le_trans h1 h.1, Nat.lt_of_lt_of_le h.2 h2⟩
/-- Cells from a slice's address on, in blocks of S. -/
def Cells (w : World) (S : Nat → Prop) (a : Option Addr) (xs : List Value) : Prop :=
  xs = [] ∨ ∃ g, a = some ⟨g, 0, none⟩ ∧ S g ∧ ∀ j u, xs[j]? = some u → w.cell? ⟨g, j, none⟩ = some u
theorem Cells.keep {w w' : World} {S S' : Nat → Prop} {a : Option Addr} {xs : List Value} (h : Cells w S a xs) (hS : ∀ g, S g → S' g) (hk : ∀ g, S g → w'.heap[g]? = w.heap[g]?) : Cells w' S' a xs := by
  rcases h with h | ⟨g, ha, hg, hc⟩
  · exact .inl h
  · exact .inr ⟨g, ha, hS g hg, fun j u hu => (World.cell?_of_block (a := ⟨g, j, none⟩) (hk g hg)).trans (hc j u hu)⟩
theorem addr_add (b j : Nat) : (⟨b, 0, none⟩ : Addr).add j = ⟨b, j, none⟩ := by unfold Addr.add; split <;> simp_all
/-- The cells of a block that is just laid. -/
theorem cells_new (w : World) (l : List Value) (t : TypeId) : ∀ (j : Nat) (u : Value), l[j]? = some u → (w.alloc (.cells l.toArray t)).cell? ((⟨w.heap.size, 0, none⟩ : Addr).add j) = some u := by
  intro j u h
  rw [addr_add]
  have hb := heap_alloc_new w (.cells l.toArray t)
  unfold World.cell?
  simp only [hb]
  simpa using h
/-- What a variable of the type api.Operand holds. -/
structure C7 where
  k : Int
  v : ByteArray
  pa : Option Addr
  pl : Nat
  pc : Nat
  s : ByteArray
  n : Int
  b : Bool
  ca : Option Addr
  cl : Nat
  cc : Nat
deriving Inhabited
def C7.cells (c : C7) : List Value := [.int .i64 c.k, .string c.v, .slice c.pa c.pl c.pc, .string c.s, .int .i64 c.n, .bool c.b, .slice c.ca c.cl c.cc]
def C7.val (c : C7) : Value := .agg #[.int .i64 c.k, .string c.v, .slice c.pa c.pl c.pc, .string c.s, .int .i64 c.n, .bool c.b, .slice c.ca c.cl c.cc]
def C7.zero (k : Nat) : C7 := ⟨k, ⟨#[]⟩, none, 0, 0, ⟨#[]⟩, 0, false, none, 0, 0⟩
theorem C7.one (c : C7) : ∀ v ∈ c.cells, v.oneCell' = true := by
  intro v hv; simp [C7.cells] at hv; rcases hv with rfl | rfl | rfl | rfl | rfl | rfl | rfl <;> rfl
/-- What a variable of the type api.Command holds: a slice, and what its operands' cells hold. -/
structure CU where
  a : Option Addr
  c : Nat
  os : List C7
deriving Inhabited
def CU.val (u : CU) : Value := .slice u.a u.os.length u.c
def CU.cells (u : CU) : List Value := [u.val]
/-- An operand lies at these seven cells; all that it leads to lies in blocks of S. -/
inductive OpV (w : World) (S : Nat → Prop) : Op → C7 → Prop where
  | mk (k : Nat) (v : List UInt8) (path : List (List UInt8)) (s : List UInt8) (n : Int) (b : Bool) (pipe : List (List Op)) (pa : Option Addr) (pc : Nat) (ca : Option Addr) (cc : Nat)
      (us : List CU) (hl : us.length = pipe.length) (hls : ∀ i (h : i < us.length) (h' : i < pipe.length), us[i].os.length = pipe[i].length)
      (hp : Cells w S pa (path.map str)) (hc : Cells w S ca (us.flatMap CU.cells)) (ho : ∀ i (h : i < us.length), Cells w S us[i].a (us[i].os.flatMap C7.cells))
      (hu : ∀ i (h : i < us.length) (h' : i < pipe.length) j (k : j < us[i].os.length) (k' : j < pipe[i].length), OpV w S pipe[i][j] us[i].os[j]) :
      OpV w S (.mk k v path s n b pipe) ⟨k, ⟨v.toArray⟩, pa, path.length, pc, ⟨s.toArray⟩, n, b, ca, pipe.length, cc⟩
theorem OpV.keep {w w' : World} {S S' : Nat → Prop} {t : Op} {c : C7} (h : OpV w S t c) (hS : ∀ g, S g → S' g) (hk : ∀ g, S g → w'.heap[g]? = w.heap[g]?) : OpV w' S' t c := by
  induction h with
  | mk k v path s n b pipe pa pc ca cc us hl hls hp hc ho hu ih =>
    exact .mk k v path s n b pipe pa pc ca cc us hl hls (hp.keep hS hk) (hc.keep hS hk) (fun i h => (ho i h).keep hS hk) ih
/-- A command: its operands. -/
structure CmdV (w : World) (S : Nat → Prop) (ops : List Op) (u : CU) : Prop where
  len : u.os.length = ops.length
  cells : Cells w S u.a (u.os.flatMap C7.cells)
  ops : ∀ j (k : j < u.os.length) (k' : j < ops.length), OpV w S ops[j] u.os[j]
theorem CmdV.keep {w w' : World} {S S' : Nat → Prop} {t : List Op} {c : CU} (h : CmdV w S t c) (hS : ∀ g, S g → S' g) (hk : ∀ g, S g → w'.heap[g]? = w.heap[g]?) : CmdV w' S' t c :=
  ⟨h.len, h.cells.keep hS hk, fun j k k' => (h.ops j k k').keep hS hk⟩
/-- A pipeline: its commands, from an address on. -/
structure PipeV (w : World) (S : Nat → Prop) (p : List (List Op)) (a : Option Addr) (us : List CU) : Prop where
  len : us.length = p.length
  cells : Cells w S a (us.flatMap CU.cells)
  cmds : ∀ i (h : i < us.length) (h' : i < p.length), CmdV w S p[i] us[i]
theorem PipeV.keep {w w' : World} {S S' : Nat → Prop} {p : List (List Op)} {a : Option Addr} {us : List CU} (h : PipeV w S p a us) (hS : ∀ g, S g → S' g) (hk : ∀ g, S g → w'.heap[g]? = w.heap[g]?) : PipeV w' S' p a us :=
  ⟨h.len, h.cells.keep hS hk, fun i k k' => (h.cmds i k k').keep hS hk⟩
theorem OpV.of_pipe {w : World} {S : Nat → Prop} (k : Nat) (v : List UInt8) (path : List (List UInt8)) (s : List UInt8) (n : Int) (b : Bool) (p : List (List Op)) (pa : Option Addr) (pc : Nat) (ca : Option Addr) (cc : Nat) (us : List CU)
    (hp : Cells w S pa (path.map str)) (h : PipeV w S p ca us) : OpV w S (.mk k v path s n b p) ⟨k, ⟨v.toArray⟩, pa, path.length, pc, ⟨s.toArray⟩, n, b, ca, p.length, cc⟩ :=
  .mk k v path s n b p pa pc ca cc us h.len (fun i q q' => (h.cmds i q q').len) hp h.cells (fun i q => (h.cmds i q (by rw [← h.len]; exact q)).cells) (fun i q q' j k k' => (h.cmds i q q').ops j k k')
/-- An operand without brackets. -/
theorem OpV.plain {w : World} {S : Nat → Prop} (k : Nat) (v : List UInt8) (path : List (List UInt8)) (s : List UInt8) (n : Int) (b : Bool) (pa : Option Addr) (pc : Nat) (hp : Cells w S pa (path.map str)) :
    OpV w S (.mk k v path s n b []) ⟨k, ⟨v.toArray⟩, pa, path.length, pc, ⟨s.toArray⟩, n, b, none, 0, 0⟩ :=
  OpV.of_pipe k v path s n b [] pa pc none 0 [] hp ⟨rfl, .inl rfl, fun _i h => absurd h (Nat.not_lt_zero _)⟩
section
variable {α : Type} (e : TypeId) (sz : Nat) (enc : α → List Value) (V : World → (Nat → Prop) → α → Prop)
/-- The memory of a call that gathers such things. -/
structure Gat (w0 w : World) (rb : Nat) (v : Value) (l : List α) : Prop where
  own : w.ownsRow w0.heap.size e sz v l.length (l.flatMap enc)
  only : Only rb w0 w
  far : ∃ S : Nat → Prop, (∀ g, S g → w0.heap.size ≤ g ∧ g < w.heap.size) ∧ (∀ g, v.ownBlock = some g → ¬ S g) ∧ ∀ y ∈ l, V w S y
end
/-- What is told of a thing in memory stays while its blocks do. -/
def Keeps {α : Type} (V : World → (Nat → Prop) → α → Prop) : Prop :=
  ∀ (w w' : World) (S S' : Nat → Prop) (x : α), V w S x → (∀ g, S g → S' g) → (∀ g, S g → w'.heap[g]? = w.heap[g]?) → V w' S' x
section
variable {α : Type} {e : TypeId} {sz : Nat} {enc : α → List Value} {V : World → (Nat → Prop) → α → Prop}
theorem Gat.start {w0 w : World} {rb : Nat} (h : Only rb w0 w) : Gat e sz enc V w0 w rb (.slice none 0 0) [] :=
  ⟨World.ownsRow_nil _ _ _ _, h, fun _ => False, fun _ h => h.elim, fun _ _ h => h, fun _ h => by cases h⟩
theorem Gat.keep {w0 w w' : World} {rb : Nat} {v : Value} {l : List α} (hV : Keeps V) (h : Gat e sz enc V w0 w rb v l) (hw : Only rb w w') (hrb : rb < w0.heap.size) : Gat e sz enc V w0 w' rb v l := by
  refine ⟨h.own.kept hw ?_, h.only.trans hw, ?_⟩
  · cases hv : v.ownBlock with
    | none => exact .inl rfl
    | some g => refine .inr fun e => ?_; cases e; have := (h.own.lt _ hv).1; omega
  · obtain ⟨S, h1, h2, h3⟩ := h.far
    refine ⟨S, fun g hg => ⟨(h1 g hg).1, Nat.lt_of_lt_of_le (h1 g hg).2 hw.size⟩, h2, fun y hy => hV _ _ _ _ _ (h3 y hy) (fun _ h => h) fun g hg => hw.block g (h1 g hg).2 (fun e => ?_)⟩
    cases e; have := (h1 _ hg).1; omega
/-- Some more, made since, are put behind. -/
theorem Gat.grow {w0 w w1 w3 : World} {rb : Nat} {v v' : Value} {l : List α} (hV : Keeps V) (h : Gat e sz enc V w0 w rb v l) (hw : Only rb w w1) (hrb : rb < w0.heap.size)
    {w2 : World} (h12 : Below w1.heap.size w1 w2) {ys : List α} (hy : ∀ y ∈ ys, V w1 (Span w.heap.size w1.heap.size) y) (hown : w3.ownsRow w0.heap.size e sz v' (l.length + ys.length) (l.flatMap enc ++ ys.flatMap enc))
    (hg : w2.grownBy w3 v.ownBlock) (hf : ∀ k, v'.ownBlock = some k → v.ownBlock = some k ∨ w2.heap.size ≤ k) : Gat e sz enc V w0 w3 rb v' (l ++ ys) := by
  have hk := h.keep hV hw hrb
  obtain ⟨S, h1, h2, h3⟩ := hk.far
  have hlt := h.own.lt
  have hws := hw.size
  have h0 := h.only.size
  have hgs := hg.size
  have h12s := h12.size
  have same : ∀ g, (S g ∨ Span w.heap.size w1.heap.size g) → w3.heap[g]? = w1.heap[g]? := by
    intro g hh
    have hl : g < w1.heap.size := by rcases hh with hh | hh; exact (h1 g hh).2; exact hh.2
    rw [hg.block g (by omega) (fun e => ?_), h12.block _ hl]
    rcases hh with hh | hh
    · exact h2 g e.symm hh
    · have := (hlt g e.symm).2; have := hh.1; omega
  refine ⟨by simpa [List.flatMap_append, List.length_append] using hown, ?_, fun g => S g ∨ Span w.heap.size w1.heap.size g, ?_, ?_, ?_⟩
  · refine But.only (w := w1) (o := v.ownBlock) ⟨hg.os.trans h12.os, hg.tape.trans h12.tape, hg.output.trans h12.output, by omega, fun k hk hn ho => ?_⟩ hk.only (fun k e => (hlt k e).1)
    rw [hg.block k (by omega) ho, h12.block _ hk]
  · intro g hh
    rcases hh with hh | hh
    · exact ⟨(h1 g hh).1, by have := (h1 g hh).2; omega⟩
    · have := hh.1; have := hh.2; exact ⟨by omega, by omega⟩
  · intro g e hh
    rcases hf g e with e | e
    · rcases hh with hh | hh
      · exact h2 g e hh
      · have := (hlt g e).2; have := hh.1; omega
    · rcases hh with hh | hh
      · have := (h1 g hh).2; omega
      · have := hh.2; omega
  · intro z hz
    rcases List.mem_append.1 hz with hz | hz
    · exact hV _ _ _ _ _ (h3 z hz) (fun _ h => .inl h) (fun g hg => same g (.inl hg))
    · exact hV _ _ _ _ _ (hy z hz) (fun _ h => .inr h) (fun g hg => same g (.inr hg))
/-- The row as cells, all of it made since. -/
theorem Gat.cells {w0 w : World} {rb : Nat} {a : Option Addr} {n c : Nat} {l : List α} (h : Gat e sz enc V w0 w rb (.slice a n c) l) : Cells w (Span w0.heap.size w.heap.size) a (l.flatMap enc) := by
  rcases h.own.2 with ⟨e1, e2⟩ | ⟨g, cap, cur, e1, hbg, hg, hnc, hcm, hcs, htake⟩
  · have e3 : l = [] := List.eq_nil_of_length_eq_zero e2
    subst e3; exact .inl rfl
  · cases e1
    refine .inr ⟨g, rfl, ⟨hbg, (Array.getElem?_eq_some_iff.1 hg).1⟩, fun j u hu => ?_⟩
    have := h.own.cells (g := g) rfl j u hu
    rwa [addr_add] at this
theorem Gat.all {w0 w : World} {rb : Nat} {v : Value} {l : List α} (hV : Keeps V) (h : Gat e sz enc V w0 w rb v l) : ∀ y ∈ l, V w (Span w0.heap.size w.heap.size) y := by
  obtain ⟨S, h1, h2, h3⟩ := h.far
  exact fun y hy => hV _ _ _ _ _ (h3 y hy) (fun g hg => h1 g hg) (fun _ _ => rfl)
end
end Tr
end Go.Proofs.YtlfbcaenlifmkaaGreatDoor
