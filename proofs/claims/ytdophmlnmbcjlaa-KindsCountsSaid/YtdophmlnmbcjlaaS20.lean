/- Schemas that a law makes: how they lie in memory. -/
import Derived.Test.YtdophmlnmbcjlaaS19
namespace Go.Proofs.Ytdophmlnmbcjlaa
open Go.RowKit
namespace Sp
open Sc
theorem flat_at {k : Nat} : ∀ (l : List (List Value)), (∀ x ∈ l, x.length = k) → ∀ (i : Nat) (h : i < l.length) (j : Nat) (v : Value), (l[i])[j]? = some v → l.flatten[i * k + j]? = some v
  | x :: l, hk, 0, _, j, v, hv => by
    rw [List.getElem_cons_zero] at hv
    rw [Nat.zero_mul, Nat.zero_add, List.flatten_cons, List.getElem?_append_left (List.getElem?_eq_some_iff.1 hv).1]; exact hv
  | x :: l, hk, i + 1, h, j, v, hv => by
    have hx : x.length = k := hk x List.mem_cons_self
    rw [List.getElem_cons_succ] at hv
    have ih := flat_at l (fun y hy => hk y (List.mem_cons_of_mem _ hy)) i (by simpa using h) j v hv
    rw [List.flatten_cons, Nat.succ_mul, List.getElem?_append_right (by omega), hx, show i * k + k + j - k = i * k + j by omega]
    exact ih
/-- Every block that there is. -/
abbrev Any (w : World) (g : Nat) : Prop := g < w.heap.size
theorem RowV.blk {w : World} {g k : Nat} {t : TypeId} {fr : Nat × Nat} {l : List (List Value)} {cs : Array Value} (h : w.heap[g]? = some (.cells cs t fr)) (hc : cs = l.flatten.toArray) (hk : ∀ x ∈ l, x.length = k) : RowV w (Any w) (some ⟨g, 0, none⟩) k l := by
  refine .inr ⟨g, 0, rfl, (Array.getElem?_eq_some_iff.1 h).1, fun i hi j v hv => ?_⟩
  have := flat_at l hk i hi j v hv
  rw [Nat.zero_add]
  subst hc
  simp [World.cell?, h, this]
theorem TzV.leaf (w : World) (S : Nat → Prop) (k : Int) (n : List UInt8) : TzV w S (.mk k n [] []) ⟨k, ⟨n.toArray⟩, none, 0, 0, none, 0, 0⟩ :=
  .mk k n [] [] none 0 none 0 [] rfl (.inl rfl) (.inl rfl) (fun i h => by cases h)
theorem TzV.grow {w w' : World} {t : Tz} {c : C4} (h : TzV w (Any w) t c) (hb : Below w.heap.size w w') : TzV w' (Any w') t c :=
  h.keep (fun _ hg => Nat.lt_of_lt_of_le hg hb.size) (fun g hg => hb.block g hg)
theorem cells4_len (us : List C4) : ∀ x ∈ us.map C4.cells, x.length = 4 := fun x hx => by obtain ⟨y, _, rfl⟩ := List.mem_map.1 hx; rfl
theorem encZ_len (us : List (List UInt8 × C4)) : ∀ x ∈ us.map encZ, x.length = 5 := fun x hx => by obtain ⟨y, _, rfl⟩ := List.mem_map.1 hx; rfl
theorem encG_len (us : List (List UInt8 × G6)) : ∀ x ∈ us.map encG, x.length = 6 := fun x hx => by obtain ⟨y, _, rfl⟩ := List.mem_map.1 hx; rfl
theorem str1_len (ns : List (List UInt8)) : ∀ x ∈ ns.map (fun n => [str n]), x.length = 1 := fun x hx => by obtain ⟨y, _, rfl⟩ := List.mem_map.1 hx; rfl
/-- A type with one kid. -/
theorem TzV.kid {w : World} {g : Nat} {ty : TypeId} {fr : Nat × Nat} {t : Tz} {c : C4} (k : Int) (h : w.heap[g]? = some (.cells #[.int .i64 c.k, .string c.n, .slice c.an c.ln c.cn, .slice c.ak c.lk c.ck] ty fr)) (hV : TzV w (Any w) t c) :
    TzV w (Any w) (.mk k [] [] [t]) ⟨k, ⟨#[]⟩, none, 0, 0, some ⟨g, 0, none⟩, 1, 1⟩ :=
  .mk k [] [] [t] none 0 (some ⟨g, 0, none⟩) 1 [c] rfl (.inl rfl) (RowV.blk (l := [c].map C4.cells) h rfl (cells4_len [c])) (fun i h h' => by
    match i, h with
    | 0, _ => exact hV)
/-- A record, a union of one name. -/
theorem TzV.fld {w : World} {g gn : Nat} {ty tn : TypeId} {fr fn : Nat × Nat} {t : Tz} {c : C4} (k : Int) (n : List UInt8) (hn : w.heap[gn]? = some (.cells #[.string ⟨n.toArray⟩] tn fn)) (h : w.heap[g]? = some (.cells #[.int .i64 c.k, .string c.n, .slice c.an c.ln c.cn, .slice c.ak c.lk c.ck] ty fr)) (hV : TzV w (Any w) t c) :
    TzV w (Any w) (.mk k [] [n] [t]) ⟨k, ⟨#[]⟩, some ⟨gn, 0, none⟩, 1, 1, some ⟨g, 0, none⟩, 1, 1⟩ :=
  .mk k [] [n] [t] (some ⟨gn, 0, none⟩) 1 (some ⟨g, 0, none⟩) 1 [c] rfl (RowV.blk (l := [n].map fun n => [str n]) hn rfl (str1_len [n])) (RowV.blk (l := [c].map C4.cells) h rfl (cells4_len [c])) (fun i h h' => by
    match i, h with
    | 0, _ => exact hV)
/-- Blocks one behind the other. -/
def allocs (w : World) : List Obj → World
  | [] => w
  | o :: l => allocs (w.alloc o) l
theorem allocs_size : ∀ (l : List Obj) (w : World), (allocs w l).heap.size = w.heap.size + l.length
  | [], w => rfl
  | o :: l, w => by rw [allocs, allocs_size l]; simp; omega
theorem allocs_below : ∀ (l : List Obj) (w : World), Below w.heap.size w (allocs w l)
  | [], w => Below.refl _ _
  | o :: l, w => ((Below.refl _ _).alloc (Nat.le_refl _) o).trans ((allocs_below l (w.alloc o)).mono (by simp))
theorem allocs_at : ∀ (l : List Obj) (w : World) (i : Nat) (h : i < l.length), (allocs w l).heap[w.heap.size + i]? = some l[i]
  | o :: l, w, 0, _ => by
    have h1 := heap_alloc_new w o
    have h2 := (allocs_below l (w.alloc o)).block w.heap.size (by simp)
    exact h2.trans h1
  | o :: l, w, i + 1, h => by
    have ih := allocs_at l (w.alloc o) i (by simpa using h)
    rw [show (w.alloc o).heap.size + i = w.heap.size + (i + 1) by simp; omega] at ih
    exact ih
/-- Named types that lie in a row; functions that do. -/
structure NmsV (w : World) (S : Nat → Prop) (l : List NT) (a : Option Addr) (us : List (List UInt8 × C4)) : Prop where
  nt : us.length = l.length
  rt : RowV w S a 5 (us.map encZ)
  vt : ∀ i (h : i < l.length) (h' : i < us.length), us[i].1 = l[i].1 ∧ TzV w S l[i].2 us[i].2
structure SgsV (w : World) (S : Nat → Prop) (l : List Sg) (a : Option Addr) (gs : List (List UInt8 × G6)) : Prop where
  ng : gs.length = l.length
  rg : RowV w S a 6 (gs.map encG)
  vg : ∀ i (h : i < l.length) (h' : i < gs.length), SgV w S l[i] gs[i]
theorem SzV.build {w : World} {S : Nat → Prop} {m : Tz} {c : C4} {l : List NT} {k : List Sg} {a1 a2 : Option Addr} {us : List (List UInt8 × C4)} {gs : List (List UInt8 × G6)} (h1 : TzV w S m c) (h2 : NmsV w S l a1 us) (h3 : SgsV w S k a2 gs) :
    SzV w S ⟨m, l, k⟩ c a1 us a2 gs := ⟨h1, h2.nt, h2.rt, h2.vt, h3.ng, h3.rg, h3.vg⟩
theorem NmsV.nil {w : World} {S : Nat → Prop} (a : Option Addr) : NmsV w S [] a [] := ⟨rfl, .inl rfl, fun i h => by cases h⟩
theorem SgsV.nil {w : World} {S : Nat → Prop} (a : Option Addr) : SgsV w S [] a [] := ⟨rfl, .inl rfl, fun i h => by cases h⟩
theorem NmsV.one {w : World} {g : Nat} {ty : TypeId} {fr : Nat × Nat} (n : List UInt8) {t : Tz} {c : C4} (h : w.heap[g]? = some (.cells #[.string ⟨n.toArray⟩, .int .i64 c.k, .string c.n, .slice c.an c.ln c.cn, .slice c.ak c.lk c.ck] ty fr)) (hV : TzV w (Any w) t c) :
    NmsV w (Any w) [(n, t)] (some ⟨g, 0, none⟩) [(n, c)] :=
  ⟨rfl, RowV.blk (l := [(n, c)].map encZ) h rfl (encZ_len [(n, c)]), fun i h h' => by
    match i, h with
    | 0, _ => exact ⟨rfl, hV⟩⟩
theorem NmsV.two {w : World} {g : Nat} {ty : TypeId} {fr : Nat × Nat} (n m : List UInt8) {t u : Tz} {c d : C4} (h : w.heap[g]? = some (.cells #[.string ⟨n.toArray⟩, .int .i64 c.k, .string c.n, .slice c.an c.ln c.cn, .slice c.ak c.lk c.ck, .string ⟨m.toArray⟩, .int .i64 d.k, .string d.n, .slice d.an d.ln d.cn, .slice d.ak d.lk d.ck] ty fr)) (hV : TzV w (Any w) t c) (hU : TzV w (Any w) u d) :
    NmsV w (Any w) [(n, t), (m, u)] (some ⟨g, 0, none⟩) [(n, c), (m, d)] :=
  ⟨rfl, RowV.blk (l := [(n, c), (m, d)].map encZ) h rfl (encZ_len [(n, c), (m, d)]), fun i h h' => by
    match i, h with
    | 0, _ => exact ⟨rfl, hV⟩
    | 1, _ => exact ⟨rfl, hU⟩⟩
theorem SgsV.one {w : World} {g : Nat} {ty : TypeId} {fr : Nat × Nat} {s : Sg} {x : List UInt8 × G6} (h : w.heap[g]? = some (.cells #[.string ⟨x.1.toArray⟩, .slice x.2.ap x.2.lp x.2.cp, .int .i64 x.2.c.k, .string x.2.c.n, .slice x.2.c.an x.2.c.ln x.2.c.cn, .slice x.2.c.ak x.2.c.lk x.2.c.ck] ty fr)) (hV : SgV w (Any w) s x) :
    SgsV w (Any w) [s] (some ⟨g, 0, none⟩) [x] :=
  ⟨rfl, RowV.blk (l := [x].map encG) h rfl (encG_len [x]), fun i h h' => by
    match i, h with
    | 0, _ => exact hV⟩
def fitS (s : Sz) : Bool := fitZ s.main && (s.types.all (fun x => decide (x.1.length ≤ maxLen) && fitZ x.2) && s.sigs.all fitG)
theorem SzFit.of {s : Sz} (h : fitS s = true) : SzFit s := by
  unfold fitS at h
  simp only [Bool.and_eq_true, List.all_eq_true, decide_eq_true_eq] at h
  exact ⟨h.1, fun i hi => h.2.1 _ (List.getElem_mem hi), fun i hi => h.2.2 _ (List.getElem_mem hi)⟩
theorem ret_intZ {a b : Int} (h : a = b) : Ending.returned (.int .i64 a) = .returned (.int .i64 b) := by rw [h]
end Sp
end Go.Proofs.Ytdophmlnmbcjlaa
