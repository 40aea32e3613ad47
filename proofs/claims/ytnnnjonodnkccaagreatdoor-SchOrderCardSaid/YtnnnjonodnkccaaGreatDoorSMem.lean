/- Types in memory; the reader's block; what a call may turn; a row that grows within its block or into a new one. -/
import Derived.Test.YtnnnjonodnkccaaGreatDoorSPure
import Derived.Test.YtnnnjonodnkccaaGreatDoorToksAny
import Derived.Test.YtnnnjonodnkccaaGreatDoorMem
namespace Go.Proofs.YtnnnjonodnkccaaGreatDoor
open Go.RowKit
namespace Sh
open Sc

/-- The blocks of w are as they were, but for block rb; there may be new ones. -/
abbrev Only (rb : Nat) (w w' : World) : Prop := w.grownBy w' (some rb)

theorem Only.refl (rb : Nat) (w : World) : Only rb w w := ⟨rfl, rfl, rfl, Nat.le_refl _, fun _ _ _ => rfl⟩
theorem Only.trans {rb : Nat} {a b c : World} (h : Only rb a b) (k : Only rb b c) : Only rb a c :=
  ⟨k.os.trans h.os, k.tape.trans h.tape, k.output.trans h.output, Nat.le_trans h.size k.size, fun i hi hn => (k.block i (Nat.lt_of_lt_of_le hi h.size) hn).trans (h.block i hi hn)⟩
theorem Only.of_below {rb : Nat} {w w' : World} (h : Below w.heap.size w w') : Only rb w w' := ⟨h.os, h.tape, h.output, h.size, fun k hk _ => h.block k hk⟩
theorem Only.alloc (rb : Nat) (w : World) (o : Obj) : Only rb w (w.alloc o) := World.grownBy_alloc w o _
theorem Only.below {rb B : Nat} {w w' : World} (h : Only rb w w') (hb : B ≤ rb) (hB : B ≤ w.heap.size) : Below B w w' :=
  ⟨h.os, h.tape, h.output, h.size, fun k hk => h.block k (Nat.lt_of_lt_of_le hk hB) (fun e => by cases e; omega)⟩
theorem Only.setCell {rb : Nat} {w w' : World} (h : Only rb w w') (o : Nat) (v : Value) : Only rb w (w'.setCell ⟨rb, o, none⟩ v) := by
  refine ⟨h.os, h.tape, h.output, by simpa using h.size, fun k hk hn => ?_⟩
  rw [← h.block k hk hn]
  unfold World.setCell
  simp only [Array.getElem?_modify]
  rw [if_neg (fun e => hn (by rw [e]))]
/-- A store into a block that is new. -/
theorem Only.setNew {rb : Nat} {w w' : World} (h : Only rb w w') (b o : Nat) (v : Value) (hb : w.heap.size ≤ b) : Only rb w (w'.setCell ⟨b, o, none⟩ v) := by
  refine ⟨h.os, h.tape, h.output, by simpa using h.size, fun k hk hn => ?_⟩
  rw [← h.block k hk hn]
  unfold World.setCell
  simp only [Array.getElem?_modify]
  rw [if_neg (fun e => by omega)]
theorem Only.drewN {rb : Nat} {w w' : World} (h : Only rb w w') (n : Nat) : Only rb w (w'.drewN n) := ⟨h.os, h.tape, h.output, h.size, h.block⟩
theorem Only.drew {rb : Nat} {w w' : World} (h : Only rb w w') : Only rb w w'.drew := ⟨h.os, h.tape, h.output, h.size, h.block⟩
theorem Only.cell {rb : Nat} {w w' : World} (h : Only rb w w') {b o : Nat} (hb : b < w.heap.size) (hn : b ≠ rb) : w'.cell? ⟨b, o, none⟩ = w.cell? ⟨b, o, none⟩ :=
  World.cell?_of_block (h.block b hb (fun e => hn (by cases e; rfl)))
theorem Only.blk {rb : Nat} {w w' : World} (h : Only rb w w') {b : Nat} {o : Obj} (hb : w.heap[b]? = some o) (hn : b ≠ rb) : w'.heap[b]? = some o :=
  (h.block b (Array.getElem?_eq_some_iff.1 hb).1 (fun e => hn (by cases e; rfl))).trans hb

/-- Cells from a slice's address on, in blocks of S. -/
def Cells (w : World) (S : Nat → Prop) (a : Option Addr) (xs : List Value) : Prop :=
  xs = [] ∨ ∃ g, a = some ⟨g, 0, none⟩ ∧ S g ∧ ∀ j u, xs[j]? = some u → w.cell? ⟨g, j, none⟩ = some u

theorem Cells.keep {w w' : World} {S S' : Nat → Prop} {a : Option Addr} {xs : List Value} (h : Cells w S a xs) (hS : ∀ g, S g → S' g) (hk : ∀ g, S g → w'.heap[g]? = w.heap[g]?) : Cells w' S' a xs := by
  rcases h with h | ⟨g, ha, hg, hc⟩
  · exact .inl h
  · exact .inr ⟨g, ha, hS g hg, fun j u hu => (World.cell?_of_block (a := ⟨g, j, none⟩) (hk g hg)).trans (hc j u hu)⟩

def str (l : List UInt8) : Value := .string ⟨l.toArray⟩

/-- What a variable of the type api.Type holds. -/
structure C4 where
  k : Int
  n : ByteArray
  an : Option Addr
  ln : Nat
  cn : Nat
  ak : Option Addr
  lk : Nat
  ck : Nat
deriving Inhabited

def C4.cells (c : C4) : List Value := [.int .i64 c.k, .string c.n, .slice c.an c.ln c.cn, .slice c.ak c.lk c.ck]
def C4.val (c : C4) : Value := .agg #[.int .i64 c.k, .string c.n, .slice c.an c.ln c.cn, .slice c.ak c.lk c.ck]
def C4.zero : C4 := ⟨0, ⟨#[]⟩, none, 0, 0, none, 0, 0⟩

theorem C4.one (c : C4) : ∀ v ∈ c.cells, v.oneCell' = true := by
  intro v hv; simp [C4.cells] at hv; rcases hv with rfl | rfl | rfl | rfl <;> rfl
theorem C4.len (c : C4) : c.cells.length = 4 := rfl

/-- A type lies at these four cells; all that it leads to lies in blocks of S. -/
inductive TyV (w : World) (S : Nat → Prop) : Ty → C4 → Prop where
  | any (c : C4) : TyV w S .any c
  | mk (k : Nat) (n : List UInt8) (ns : List (List UInt8)) (ks : List Ty) (an : Option Addr) (cn : Nat) (ak : Option Addr) (ck : Nat) (us : List C4) (hl : us.length = ks.length)
      (hn : Cells w S an (ns.map str)) (hk : Cells w S ak (us.flatMap C4.cells)) (hu : ∀ i (h : i < ks.length) (h' : i < us.length), TyV w S ks[i] us[i]) :
      TyV w S (.mk k n ns ks) ⟨k, ⟨n.toArray⟩, an, ns.length, cn, ak, ks.length, ck⟩

theorem TyV.keep {w w' : World} {S S' : Nat → Prop} {t : Ty} {c : C4} (h : TyV w S t c) (hS : ∀ g, S g → S' g) (hk : ∀ g, S g → w'.heap[g]? = w.heap[g]?) : TyV w' S' t c := by
  induction h with
  | any c => exact .any c
  | mk k n ns ks an cn ak ck us hl hn hk' hu ih => exact .mk k n ns ks an cn ak ck us hl (hn.keep hS hk) (hk'.keep hS hk) ih
theorem TyV.zero (w : World) (S : Nat → Prop) : TyV w S .zero .zero := .mk 0 [] [] [] none 0 none 0 [] rfl (.inl rfl) (.inl rfl) (fun i h => absurd h (Nat.not_lt_zero _))

/-- The blocks from one number to another. -/
def Span (a b : Nat) (g : Nat) : Prop := a ≤ g ∧ g < b
theorem Span.in {a b a' b' : Nat} (h1 : a' ≤ a) (h2 : b ≤ b') (g : Nat) (h : Span a b g) : Span a' b' g := ⟨Nat.le_trans h1 h.1, Nat.lt_of_lt_of_le h.2 h2⟩

/-- The words that are not read yet. -/
def Words (w : World) (rb : Nat) (a : Option Addr) (ts : List T) : Prop :=
  ts = [] ∨ ∃ g o, a = some ⟨g, o, none⟩ ∧ g < rb ∧ g < w.heap.size ∧ ∀ i (h : i < ts.length),
    w.cell? ⟨g, o + i * 4, none⟩ = some (.int .i64 ts[i].kind) ∧ w.cell? ⟨g, o + (i * 4 + 1), none⟩ = some (.string ⟨ts[i].text.toArray⟩)

/-- The reader's block: what is not read yet, the first error, whether a name was there twice. -/
structure Rd (w : World) (rb : Nat) (r : R) (a : Option Addr) (c : Nat) : Prop where
  blk : w.heap[rb]? = some (.cells #[.slice a r.words.length c, .int .i64 r.err, .bool r.twice] 78 (0, 0))
  cap : r.words.length ≤ c
  max : c ≤ maxLen
  words : Words w rb a r.words

theorem Rd.lt {w : World} {rb : Nat} {r : R} {a : Option Addr} {c : Nat} (h : Rd w rb r a c) : rb < w.heap.size := (Array.getElem?_eq_some_iff.1 h.blk).1

/-- Three cells of a block. -/
theorem three_blk {w : World} {b : Nat} {t : TypeId} {v0 v1 v2 : Value} (h : w.heap[b]? = some (.cells #[v0, v1, v2] t (0, 0))) :
    (w.cell? ⟨b, 0, none⟩ = some v0 ∧ w.cell? ⟨b, 1, none⟩ = some v1 ∧ w.cell? ⟨b, 2, none⟩ = some v2) ∧
    (w.frozen? ⟨b, 0, none⟩ = false ∧ w.frozen? ⟨b, 1, none⟩ = false ∧ w.frozen? ⟨b, 2, none⟩ = false) := by
  refine ⟨⟨?_, ?_, ?_⟩, ⟨?_, ?_, ?_⟩⟩ <;> simp [World.cell?, World.frozen?, h]

theorem set_blk0 {w : World} {b : Nat} {t : TypeId} {v0 v1 v2 : Value} (h : w.heap[b]? = some (.cells #[v0, v1, v2] t (0, 0))) (v : Value) : (w.setCell ⟨b, 0, none⟩ v).heap[b]? = some (.cells #[v, v1, v2] t (0, 0)) := by
  unfold World.setCell; simp [Array.getElem?_modify, h]
theorem set_blk1 {w : World} {b : Nat} {t : TypeId} {v0 v1 v2 : Value} (h : w.heap[b]? = some (.cells #[v0, v1, v2] t (0, 0))) (v : Value) : (w.setCell ⟨b, 1, none⟩ v).heap[b]? = some (.cells #[v0, v, v2] t (0, 0)) := by
  unfold World.setCell; simp [Array.getElem?_modify, h]
theorem set_blk2 {w : World} {b : Nat} {t : TypeId} {v0 v1 v2 : Value} (h : w.heap[b]? = some (.cells #[v0, v1, v2] t (0, 0))) (v : Value) : (w.setCell ⟨b, 2, none⟩ v).heap[b]? = some (.cells #[v0, v1, v] t (0, 0)) := by
  unfold World.setCell; simp [Array.getElem?_modify, h]

theorem Words.keep {w w' : World} {rb : Nat} {a : Option Addr} {ts : List T} (h : Words w rb a ts) (hw : Only rb w w') : Words w' rb a ts := by
  rcases h with h | ⟨g, o, ha, hg, hlt, hc⟩
  · exact .inl h
  · exact .inr ⟨g, o, ha, hg, Nat.lt_of_lt_of_le hlt hw.size, fun i hi => by rw [hw.cell hlt (Nat.ne_of_lt hg), hw.cell hlt (Nat.ne_of_lt hg)]; exact hc i hi⟩
/-- A reader stays as it is while only new memory is made. -/
theorem Rd.keep {w w' : World} {rb : Nat} {r : R} {a : Option Addr} {c : Nat} (h : Rd w rb r a c) (hw : Below w.heap.size w w') : Rd w' rb r a c :=
  ⟨(hw.block _ h.lt).trans h.blk, h.cap, h.max, h.words.keep (Only.of_below hw)⟩
/-- The blocks of w are as they were, but for block rb and another one; there may be new ones. -/
structure But (rb : Nat) (o : Option Nat) (w w' : World) : Prop where
  os : w'.os = w.os
  tape : w'.tape = w.tape
  output : w'.output = w.output
  size : w.heap.size ≤ w'.heap.size
  block : ∀ k, k < w.heap.size → k ≠ rb → some k ≠ o → w'.heap[k]? = w.heap[k]?
theorem But.of_only {rb : Nat} {o : Option Nat} {w w' : World} (h : Only rb w w') : But rb o w w' := ⟨h.os, h.tape, h.output, h.size, fun k hk hn _ => h.block k hk (fun e => hn (by cases e; rfl))⟩
theorem But.of_grown {rb : Nat} {o : Option Nat} {w w' : World} (h : w.grownBy w' o) : But rb o w w' := ⟨h.os, h.tape, h.output, h.size, fun k hk _ hn => h.block k hk hn⟩
theorem But.trans {rb : Nat} {o : Option Nat} {a b c : World} (h : But rb o a b) (k : But rb o b c) : But rb o a c :=
  ⟨k.os.trans h.os, k.tape.trans h.tape, k.output.trans h.output, Nat.le_trans h.size k.size, fun i hi hn ho => (k.block i (Nat.lt_of_lt_of_le hi h.size) hn ho).trans (h.block i hi hn ho)⟩
/-- Where the other one is new, it is as if it were not. -/
theorem But.only {rb : Nat} {o : Option Nat} {w0 w w' : World} (h : But rb o w w') (h0 : Only rb w0 w) (ho : ∀ k, o = some k → w0.heap.size ≤ k) : Only rb w0 w' :=
  ⟨h.os.trans h0.os, h.tape.trans h0.tape, h.output.trans h0.output, Nat.le_trans h0.size h.size, fun k hk hn =>
    (h.block k (Nat.lt_of_lt_of_le hk h0.size) (fun e => hn (by rw [e])) (fun e => by have := ho k e.symm; omega)).trans (h0.block k hk hn)⟩

/-- A reader stays as it is while a block behind its own is written. -/
theorem Rd.row {w w' : World} {rb : Nat} {r : R} {a : Option Addr} {c : Nat} (h : Rd w rb r a c) {o : Option Nat} (hw : w.grownBy w' o) (ho : ∀ k, o = some k → rb < k) : Rd w' rb r a c := by
  refine ⟨(hw.block _ h.lt (fun e => by have := ho _ e.symm; omega)).trans h.blk, h.cap, h.max, ?_⟩
  rcases h.words with e | ⟨g, o', ha, hg, hlt, hc⟩
  · exact .inl e
  · have hb := hw.block g hlt (fun e => by have := ho _ e.symm; omega)
    exact .inr ⟨g, o', ha, hg, Nat.lt_of_lt_of_le hlt hw.size, fun i hi => by
      rw [World.cell?_of_block (a := ⟨g, o' + i * 4, none⟩) hb, World.cell?_of_block (a := ⟨g, o' + (i * 4 + 1), none⟩) hb]; exact hc i hi⟩

theorem Rd.first {w : World} {rb : Nat} {r : R} {a : Option Addr} {c : Nat} (h : Rd w rb r a c) {t : T} {ts : List T} (e : r.words = t :: ts) :
    ∃ g o, a = some ⟨g, o, none⟩ ∧ g ≠ rb ∧ g < w.heap.size ∧ w.cell? ⟨g, o, none⟩ = some (.int .i64 t.kind) ∧ w.cell? ⟨g, o + 1, none⟩ = some (.string ⟨t.text.toArray⟩) := by
  rcases h.words with h | ⟨g, o, ha, hg, hlt, hc⟩
  · rw [e] at h; cases h
  · refine ⟨g, o, ha, Nat.ne_of_lt hg, hlt, ?_, ?_⟩
    · have := (hc 0 (by rw [e]; simp)).1; simpa [e] using this
    · have := (hc 0 (by rw [e]; simp)).2; simpa [e] using this

theorem twice_set {w : World} {rb : Nat} {r : R} {a : Option Addr} {c : Nat} (h : Rd w rb r a c) : Rd (w.setCell ⟨rb, 2, none⟩ (.bool true)) rb ⟨r.words, r.err, true⟩ a c :=
  ⟨set_blk2 h.blk _, h.cap, h.max, h.words.keep ((Only.refl _ _).setCell _ _)⟩

theorem addr_add (b j : Nat) : (⟨b, 0, none⟩ : Addr).add j = ⟨b, j, none⟩ := by unfold Addr.add; split <;> simp_all
/-- The cells of a block that is just laid. -/
theorem cells_new (w : World) (l : List Value) (t : TypeId) : ∀ (j : Nat) (u : Value), l[j]? = some u → (w.alloc (.cells l.toArray t)).cell? ((⟨w.heap.size, 0, none⟩ : Addr).add j) = some u := by
  intro j u h
  rw [addr_add]
  have hb := heap_alloc_new w (.cells l.toArray t)
  unfold World.cell?
  simp only [hb]
  simpa using h

/-- Some place and room. -/
def RdE (w : World) (rb : Nat) (r : R) : Prop := ∃ a c, Rd w rb r a c
theorem RdE.keep {w w' : World} {rb : Nat} {r : R} (h : RdE w rb r) (hw : Below w.heap.size w w') : RdE w' rb r := by
  obtain ⟨a, c, h⟩ := h; exact ⟨a, c, h.keep hw⟩
theorem RdE.row {w w' : World} {rb : Nat} {r : R} (h : RdE w rb r) {o : Option Nat} (hw : w.grownBy w' o) (ho : ∀ k, o = some k → rb < k) : RdE w' rb r := by
  obtain ⟨a, c, h⟩ := h; exact ⟨a, c, h.row hw ho⟩
theorem RdE.lt {w : World} {rb : Nat} {r : R} (h : RdE w rb r) : rb < w.heap.size := by obtain ⟨a, c, h⟩ := h; exact h.lt

/-- What a call of the reader's leaves: an ending, a new state; nothing else that was there turns. -/
def Post (w : World) (rb : Nat) (r' : R) (v : Value) (e : Ending) (w' : World) : Prop := e = .returned v ∧ RdE w' rb r' ∧ Only rb w w'
end Sh
end Go.Proofs.YtnnnjonodnkccaaGreatDoor
