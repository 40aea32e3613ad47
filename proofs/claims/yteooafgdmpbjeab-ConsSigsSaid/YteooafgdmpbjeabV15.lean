/- Schemas that a law makes: how they lie in memory. -/
import Derived.Test.YteooafgdmpbjeabV14
import Derived.Test.YteooafgdmpbjeabV1
import Derived.Test.YteooafgdmpbjeabRows
import Derived.WalkKit
import Derived.Laws.AppendOwn
namespace Go.Proofs.Yteooafgdmpbjeab
open Go.RowKit
namespace Sp
open Sc
theorem flat_at {k : Nat} : ∀ (l : List (List Value)), (∀ x ∈ l, x.length = k) → ∀ (i : Nat) (h : i < l.length) (j : Nat) (v : Value), (l[i])[j]? = some v → l.flatten[i * k + j]? = some v
  | x :: l, hk, 0, _, j, v, hv => by
    rw [List.getElem_cons_zero] at hv
    rw [Nat.zero_mul, Nat.zero_add, List.flatten_cons, List.getElem?_append_left (List.getElem?_eq_some_iff.1 hv).1]; exact hv
  | x :: l, hk, i + 1, h, j, v, hv => by
    have hx : x.length = k := hk x List.mem_cons_self
    rw [List.getElem_cons_succ] at hv
    have ih := flat_at l (fun y hy => hk y (List.mem_cons_of_mem _ hy)) i (by simpa using h) j v hv
    rw [List.flatten_cons, Nat.succ_mul, List.getElem?_append_right (by omega), hx, show i * k + k + j - k = i * k + j by omega]
    exact ih
/-- Every block that there is. -/
abbrev Any (w : World) (g : Nat) : Prop := g < w.heap.size
theorem TzV.leaf (w : World) (S : Nat → Prop) (k : Int) (n : List UInt8) : TzV w S (.mk k n [] []) ⟨k, ⟨n.toArray⟩, none, 0, 0, none, 0, 0⟩ :=
  .mk k n [] [] none 0 none 0 [] rfl (.inl rfl) (.inl rfl) (fun i h => by cases h)
theorem TzV.grow {w w' : World} {t : Tz} {c : C4} (h : TzV w (Any w) t c) (hb : Below w.heap.size w w') : TzV w' (Any w') t c :=
  h.keep (fun _ hg => Nat.lt_of_lt_of_le hg hb.size) (fun g hg => hb.block g hg)
theorem cells4_len (us : List C4) : ∀ x ∈ us.map C4.cells, x.length = 4 := fun x hx => by obtain ⟨y, _, rfl⟩ := List.mem_map.1 hx; rfl
theorem encZ_len (us : List (List UInt8 × C4)) : ∀ x ∈ us.map encZ, x.length = 5 := fun x hx => by obtain ⟨y, _, rfl⟩ := List.mem_map.1 hx; rfl
theorem encG_len (us : List (List UInt8 × G6)) : ∀ x ∈ us.map encG, x.length = 6 := fun x hx => by obtain ⟨y, _, rfl⟩ := List.mem_map.1 hx; rfl
theorem str1_len (ns : List (List UInt8)) : ∀ x ∈ ns.map (fun n => [str n]), x.length = 1 := fun x hx => by obtain ⟨y, _, rfl⟩ := List.mem_map.1 hx; rfl
/-- Named types that lie in a row; functions that do. -/
structure NmsV (w : World) (S : Nat → Prop) (l : List NT) (a : Option Addr) (us : List (List UInt8 × C4)) : Prop where
  nt : us.length = l.length
  rt : RowV w S a 5 (us.map encZ)
  vt : ∀ i (h : i < l.length) (h' : i < us.length), us[i].1 = l[i].1 ∧ TzV w S l[i].2 us[i].2
structure SgsV (w : World) (S : Nat → Prop) (l : List Sg) (a : Option Addr) (gs : List (List UInt8 × G6)) : Prop where
  ng : gs.length = l.length
  rg : RowV w S a 6 (gs.map encG)
  vg : ∀ i (h : i < l.length) (h' : i < gs.length), SgV w S l[i] gs[i]
theorem SzV.build {w : World} {S : Nat → Prop} {m : Tz} {c : C4} {l : List NT} {k : List Sg} {a1 a2 : Option Addr} {us : List (List UInt8 × C4)} {gs : List (List UInt8 × G6)} (h1 : TzV w S m c) (h2 : NmsV w S l a1 us) (h3 : SgsV w S k a2 gs) :
    SzV w S ⟨m, l, k⟩ c a1 us a2 gs := ⟨h1, h2.nt, h2.rt, h2.vt, h3.ng, h3.rg, h3.vg⟩
theorem NmsV.nil {w : World} {S : Nat → Prop} (a : Option Addr) : NmsV w S [] a [] := ⟨rfl, .inl rfl, fun i h => by cases h⟩
theorem SgsV.nil {w : World} {S : Nat → Prop} (a : Option Addr) : SgsV w S [] a [] := ⟨rfl, .inl rfl, fun i h => by cases h⟩
theorem ret_intZ {a b : Int} (h : a = b) : Ending.returned (.int .i64 a) = .returned (.int .i64 b) := by rw [h]
end Sp
end Go.Proofs.Yteooafgdmpbjeab
namespace Go.Proofs.Yteooafgdmpbjeab
namespace Sp
open Sc
def zI : Tz := .mk 2 [] [] []
end Sp
end Go.Proofs.Yteooafgdmpbjeab
namespace Go.Proofs.Yteooafgdmpbjeab
open Go.RowKit
namespace Sp
open Sc
/-- A block of a chain of new ones. -/
theorem blk_if (w : World) (o : Obj) (n : Nat) : (w.alloc o).heap[n]? = if n = w.heap.size then some o else w.heap[n]? := by
  split
  · next h => subst h; exact heap_alloc_new w o
  · next h =>
    by_cases hl : n < w.heap.size
    · exact Below.heap_alloc _ _ _ hl
    · rw [Array.getElem?_eq_none (by simp; omega), Array.getElem?_eq_none (by omega)]
end Sp
end Go.Proofs.Yteooafgdmpbjeab
namespace Go.Proofs.Yteooafgdmpbjeab
open Go.RowKit
namespace Sh
theorem run_append_fresh {P : Program} (w : World) (base : Nat) (t ty e : TypeId) (i : TypeInfo) (z : Value) (size bytes : Nat) (ht : P.underlying t = some (.slice e)) (hi : P.info? e = some i) (hz : i.zero = some z)
    (hsize : i.size = size) (hby : i.bytes = bytes) (hzs : z.cells.size = size) (hsz : 0 < size)
    (v : Value) (n : Nat) (xs : List Value) (hown : w.ownsRow base e size v n xs)
    (a : Addr) (m c : Nat) (news : List Value) (hl : news.length = m * size) (hnews : ∀ j u, news[j]? = some u → w.cell? (a.add j) = some u) (h1 : ∀ u ∈ news, u.oneCell' = true)
    (h63 : n + m ≤ maxLen) (hbytes : (n + m) * bytes ≤ 140737488355328) (hbase : base ≤ w.heap.size) :
    ∃ v' w', (Builtin.append_ #[t, t] ty #[v, .slice (some a) m c]).run P w = .ok v' w' ∧ w'.ownsRow base e size v' (n + m) (xs ++ news) ∧ w.grownBy w' v.ownBlock ∧
      ∀ k, v'.ownBlock = some k → v.ownBlock = some k ∨ w.heap.size ≤ k := by
  obtain ⟨v', w', hr, h2, h3, _⟩ := run_append_own (P := P) w base t ty e i z size bytes ht hi hz hsize hby hzs hsz v n xs hown a m c news hl hnews h1 h63 hbytes hbase
  refine ⟨v', w', hr, h2, h3, fun k hk => ?_⟩
  rcases hown.2 with ⟨rfl, rfl⟩ | ⟨g, cap, cur, rfl, hbg, hg, hnc, hcm, hcs, htake⟩
  · obtain ⟨v2, w2, hr2, h4, _⟩ := run_append_own (P := P) w w.heap.size t ty e i z size bytes ht hi hz hsize hby hzs hsz (.slice none 0 0) 0 [] (World.ownsRow_nil w w.heap.size e size) a m c news hl hnews h1 h63 hbytes (Nat.le_refl _)
    rw [hr] at hr2
    cases hr2
    exact .inr (h4.lt k hk).1
  · by_cases hroom : n + m ≤ cap
    · have hr2 := run_append_room (P := P) w t ty e i ht hi g n cap cur hg a m c news (by rw [hl, hsize]) hnews h1 hroom (by rw [hl, hcs, hsize, ← Nat.add_mul]; exact Nat.mul_le_mul_right _ hroom)
      rw [hr] at hr2
      cases hr2
      exact .inl hk
    · have hsmall : n + m ≤ 9223372036854775807 := by simp only [maxLen] at h63; omega
      have hr2 := run_append_grow (P := P) w t ty e i z ht hi hz ⟨g, 0, none⟩ n cap xs (by rw [hown.1, hsize]) (hown.cells (g := g) rfl) a m c news (by rw [hl, hsize]) hnews (by omega) (by omega) (growslice_fits (by omega) (by rw [hby]; exact hbytes))
      rw [hr] at hr2
      cases hr2
      simp only [Value.ownBlock, Option.some.injEq] at hk
      exact .inr (by omega)
theorem wp_append_fresh {P : Program} {o : Oper} {a : Act} {w : World} {K : Act → World → Prop} {Q : Exit → Act → World → Prop} (s x : Operand) (t : TypeId)
    (ho : o.op = .call { callee := .builtin .append, args := #[s, x], argTypes := #[t, t] })
    (base : Nat) (e : TypeId) (i : TypeInfo) (z : Value) (size bytes : Nat) (ht : P.underlying t = some (.slice e)) (hi : P.info? e = some i) (hz : i.zero = some z)
    (hsize : i.size = size) (hby : i.bytes = bytes) (hzs : z.cells.size = size) (hsz : 0 < size)
    (v : Value) (n : Nat) (xs : List Value) (hs : a.eval s = v) (hown : w.ownsRow base e size v n xs)
    (ad : Addr) (m c : Nat) (news : List Value) (hx : a.eval x = .slice (some ad) m c) (hl : news.length = m * size) (hnews : ∀ j u, news[j]? = some u → w.cell? (ad.add j) = some u) (h1 : ∀ u ∈ news, u.oneCell' = true)
    (h63 : n + m ≤ maxLen) (hbytes : (n + m) * bytes ≤ 140737488355328) (hbase : base ≤ w.heap.size)
    (h : ∀ v' w', w'.ownsRow base e size v' (n + m) (xs ++ news) → w.grownBy w' v.ownBlock → (∀ k, v'.ownBlock = some k → v.ownBlock = some k ∨ w.heap.size ≤ k) → K (a.put o.dst v') w') : o.wp P a w K Q := by
  obtain ⟨v', w', hr, h2, h3, h4⟩ := run_append_fresh (P := P) w base t o.type e i z size bytes ht hi hz hsize hby hzs hsz v n xs hown ad m c news hl hnews h1 h63 hbytes hbase
  have hgo := h v' w' h2 h3 h4
  simp only [Oper.wp, execOp, ho, resolve, invoke, builtin, Sem.run_bind, Sem.run_pure, Result.andThen_ok, List.map_toArray, List.map_cons, List.map_nil, hs, hx, hr]
  exact hgo
/-- The law of append, with the place of what comes out. -/
theorem wpList_append_fresh {P : Program} {ops : Array Oper} {rest : List Oper} {o : Oper} {a : Act} {w : World} {Q : Exit → Act → World → Prop} (hgd : o.guard = none) (s x : Operand) (t : TypeId)
    (ho : o.op = .call { callee := .builtin .append, args := #[s, x], argTypes := #[t, t] })
    (base : Nat) (e : TypeId) (i : TypeInfo) (z : Value) (size bytes : Nat) (ht : P.underlying t = some (.slice e)) (hi : P.info? e = some i) (hz : i.zero = some z)
    (hsize : i.size = size) (hby : i.bytes = bytes) (hzs : z.cells.size = size) (hsz : 0 < size)
    (v : Value) (n : Nat) (xs : List Value) (hs : a.eval s = v) (hown : w.ownsRow base e size v n xs)
    (ad : Addr) (m c : Nat) (news : List Value) (hx : a.eval x = .slice (some ad) m c) (hl : news.length = m * size) (hnews : ∀ j u, news[j]? = some u → w.cell? (ad.add j) = some u) (h1 : ∀ u ∈ news, u.oneCell' = true)
    (h63 : n + m ≤ maxLen) (hbytes : (n + m) * bytes ≤ 140737488355328) (hbase : base ≤ w.heap.size)
    (h : ∀ v' w', w'.ownsRow base e size v' (n + m) (xs ++ news) → w.grownBy w' v.ownBlock → (∀ k, v'.ownBlock = some k → v.ownBlock = some k ∨ w.heap.size ≤ k) → wpList P ops Q rest (a.put o.dst v') w') : wpList P ops Q (o :: rest) a w :=
  wpList_plain hgd fun _ hK => wp_append_fresh s x t ho base e i z size bytes ht hi hz hsize hby hzs hsz v n xs hs hown ad m c news hx hl hnews h1 h63 hbytes hbase fun v' w' h2 h3 h4 => hK _ _ (h v' w' h2 h3 h4)
end Sh
end Go.Proofs.Yteooafgdmpbjeab
namespace Go.Proofs.Yteooafgdmpbjeab
open Go.RowKit
namespace Sp
open Sc
/-- Blocks that stay: none of X, none of a row that is still gathered. -/
def Free (w : World) (X : List Nat) (vs : List Value) (g : Nat) : Prop := g < w.heap.size ∧ g ∉ X ∧ ∀ v ∈ vs, v.ownBlock ≠ some g
/-- What stays does stay. -/
def Step (X : List Nat) (vs vs' : List Value) (w w' : World) : Prop := ∀ g, Free w X vs g → Free w' X vs' g ∧ w'.heap[g]? = w.heap[g]?
theorem Step.trans {X : List Nat} {u v x : List Value} {a b c : World} (h : Step X u v a b) (k : Step X v x b c) : Step X u x a c :=
  fun g hg => ⟨(k g (h g hg).1).1, (k g (h g hg).1).2.trans (h g hg).2⟩
theorem Step.below {X : List Nat} {vs : List Value} {w w' : World} (h : Below w.heap.size w w') : Step X vs vs w w' :=
  fun g hg => ⟨⟨Nat.lt_of_lt_of_le hg.1 h.size, hg.2⟩, h.block g hg.1⟩
theorem Step.alloc {X : List Nat} {vs : List Value} (w : World) (o : Obj) : Step X vs vs w (w.alloc o) := Step.below ((Below.refl _ _).alloc (Nat.le_refl _) o)
theorem Step.only {X : List Nat} {vs : List Value} {w w' : World} {b : Nat} (hb : b ∈ X) (h : Only b w w') : Step X vs vs w w' :=
  fun g hg => ⟨⟨Nat.lt_of_lt_of_le hg.1 h.size, hg.2⟩, h.block g hg.1 (fun e => hg.2.1 (by cases e; exact hb))⟩
theorem Step.append {X : List Nat} {vs vs' : List Value} {w w' : World} {v v' : Value} (hg : w.grownBy w' v.ownBlock) (hv : v ∈ vs) (hf : ∀ k, v'.ownBlock = some k → v.ownBlock = some k ∨ w.heap.size ≤ k) (hs : ∀ u ∈ vs', u = v' ∨ u ∈ vs) : Step X vs vs' w w' := by
  intro g h
  refine ⟨⟨Nat.lt_of_lt_of_le h.1 hg.size, h.2.1, fun u hu e => ?_⟩, hg.block g h.1 (fun e => h.2.2 v hv e.symm)⟩
  rcases hs u hu with rfl | hu
  · rcases hf g e with e | e
    · exact h.2.2 v hv e
    · have := h.1; omega
  · exact h.2.2 u hu e
theorem TzV.step {X : List Nat} {vs vs' : List Value} {w w' : World} {t : Tz} {c : C4} (h : TzV w (Free w X vs) t c) (hs : Step X vs vs' w w') : TzV w' (Free w' X vs') t c := h.keep (fun g hg => (hs g hg).1) (fun g hg => (hs g hg).2)
def put4 (w : World) (b : Nat) (c : C4) : World :=
  (((w.setCell ⟨b, 0, none⟩ (.int .i64 c.k)).setCell ⟨b, 1, none⟩ (.string c.n)).setCell ⟨b, 2, none⟩ (.slice c.an c.ln c.cn)).setCell ⟨b, 3, none⟩ (.slice c.ak c.lk c.ck)
theorem put4_size (w : World) (b : Nat) (c : C4) : (put4 w b c).heap.size = w.heap.size := by simp [put4]
theorem put4_only (w : World) (b : Nat) (c : C4) : Only b w (put4 w b c) := ((((Only.refl b w).setCell 0 _).setCell 1 _).setCell 2 _).setCell 3 _
theorem put4_at {w : World} {b : Nat} {v0 v1 v2 v3 : Value} {ty : TypeId} {fr : Nat × Nat} (h : w.heap[b]? = some (.cells #[v0, v1, v2, v3] ty fr)) (c : C4) :
    (put4 w b c).heap[b]? = some (.cells #[.int .i64 c.k, .string c.n, .slice c.an c.ln c.cn, .slice c.ak c.lk c.ck] ty fr) := by
  simp [put4, World.setCell, Array.getElem?_modify, h]
theorem RowV.own {w : World} {S : Nat → Prop} {base k : Nat} {e : TypeId} {v : Value} {n : Nat} {l : List (List Value)} (h : w.ownsRow base e k v n l.flatten) (hk : ∀ x ∈ l, x.length = k) (hn : n = l.length) (hS : ∀ g, v.ownBlock = some g → S g) : ∃ a c, v = .slice a n c ∧ RowV w S a k l := by
  rcases h.2 with ⟨rfl, h0⟩ | ⟨g, cap, cur, rfl, _, hg, _⟩
  · refine ⟨none, 0, by rw [h0], .inl ?_⟩
    rw [h0] at hn
    exact List.eq_nil_of_length_eq_zero hn.symm
  · refine ⟨_, cap, rfl, .inr ⟨g, 0, rfl, hS g rfl, fun i hi j x hx => ?_⟩⟩
    have a := h.cells (g := g) rfl _ x (flat_at l hk i hi j x hx)
    rw [Nat.zero_add]
    have e : (⟨g, 0, none⟩ : Addr).add (i * k + j) = ⟨g, i * k + j, none⟩ := by unfold Addr.add; split <;> simp_all
    rw [← e]; exact a
theorem addr_addZ (b j : Nat) : (⟨b, 0, none⟩ : Addr).add j = ⟨b, j, none⟩ := by unfold Addr.add; split <;> simp_all
theorem cells_newZ (w : World) (l : List Value) (t : TypeId) : ∀ (j : Nat) (u : Value), l[j]? = some u → (w.alloc (.cells l.toArray t)).cell? ((⟨w.heap.size, 0, none⟩ : Addr).add j) = some u := by
  intro j u h
  rw [addr_addZ]
  have hb := heap_alloc_new w (.cells l.toArray t)
  unfold World.cell?
  simp only [hb]
  simpa using h
theorem six_blkF {w : World} {b : Nat} {t : TypeId} {v0 v1 v2 v3 v4 v5 : Value} (h : w.heap[b]? = some (.cells #[v0, v1, v2, v3, v4, v5] t (0, 0))) :
    (w.cell? ⟨b, 0, none⟩ = some v0 ∧ w.cell? ⟨b, 1, none⟩ = some v1 ∧ w.cell? ⟨b, 2, none⟩ = some v2 ∧ w.cell? ⟨b, 3, none⟩ = some v3 ∧ w.cell? ⟨b, 4, none⟩ = some v4 ∧ w.cell? ⟨b, 5, none⟩ = some v5) ∧
    (w.frozen? ⟨b, 0, none⟩ = false ∧ w.frozen? ⟨b, 1, none⟩ = false ∧ w.frozen? ⟨b, 2, none⟩ = false ∧ w.frozen? ⟨b, 3, none⟩ = false ∧ w.frozen? ⟨b, 4, none⟩ = false ∧ w.frozen? ⟨b, 5, none⟩ = false) := by
  refine ⟨⟨?_, ?_, ?_, ?_, ?_, ?_⟩, ⟨?_, ?_, ?_, ?_, ?_, ?_⟩⟩ <;> simp [World.cell?, World.frozen?, h]
theorem set_six4 {w : World} {b : Nat} {t : TypeId} {v0 v1 v2 v3 v4 v5 : Value} (h : w.heap[b]? = some (.cells #[v0, v1, v2, v3, v4, v5] t (0, 0))) (v : Value) : (w.setCell ⟨b, 4, none⟩ v).heap[b]? = some (.cells #[v0, v1, v2, v3, v, v5] t (0, 0)) := by
  unfold World.setCell; simp [Array.getElem?_modify, h]
theorem set_six5 {w : World} {b : Nat} {t : TypeId} {v0 v1 v2 v3 v4 v5 : Value} (h : w.heap[b]? = some (.cells #[v0, v1, v2, v3, v4, v5] t (0, 0))) (v : Value) : (w.setCell ⟨b, 5, none⟩ v).heap[b]? = some (.cells #[v0, v1, v2, v3, v4, v] t (0, 0)) := by
  unfold World.setCell; simp [Array.getElem?_modify, h]
theorem put4_six {w : World} {b : Nat} {v0 v1 v2 v3 v4 v5 : Value} {ty : TypeId} (h : w.heap[b]? = some (.cells #[v0, v1, v2, v3, v4, v5] ty (0, 0))) (c : C4) :
    (put4 w b c).heap[b]? = some (.cells #[.int .i64 c.k, .string c.n, .slice c.an c.ln c.cn, .slice c.ak c.lk c.ck, v4, v5] ty (0, 0)) := by
  simp [put4, World.setCell, Array.getElem?_modify, h]
theorem own_sliceZ {w : World} {base : Nat} {e : TypeId} {size : Nat} {v : Value} {n : Nat} {xs : List Value} (h : w.ownsRow base e size v n xs) : ∃ a c, v = .slice a n c := by
  rcases h.2 with ⟨rfl, h0⟩ | ⟨g, cap, cur, rfl, _⟩
  · exact ⟨none, 0, by rw [h0]⟩
  · exact ⟨_, cap, rfl⟩
theorem below_grown {B : Nat} {w w' : World} {r : Option Nat} (h : w.grownBy w' r) (hr : ∀ k, r = some k → B ≤ k) (hB : B ≤ w.heap.size) : Below B w w' :=
  ⟨h.os, h.tape, h.output, h.size, fun k hk => h.block k (Nat.lt_of_lt_of_le hk hB) (fun e => by have := hr k e.symm; omega)⟩
theorem below_set {B : Nat} {w : World} {b : Nat} (o : Nat) (v : Value) (hb : B ≤ b) (hB : B ≤ w.heap.size) : Below B w (w.setCell ⟨b, o, none⟩ v) := ((Only.refl b w).setCell o v).below hb hB
/-- A schema's block as a function's argument finds it. -/
theorem one5 {n : List UInt8} {k : Int} {s : ByteArray} {a b : Option Addr} {x y u v : Nat} : ∀ z ∈ ([.string ⟨n.toArray⟩, .int .i64 k, .string s, .slice a x y, .slice b u v] : List Value), z.oneCell' = true := by
  intro z hz; simp at hz; rcases hz with rfl | rfl | rfl | rfl | rfl <;> rfl
theorem wrap64_bd (a : Int) : -9223372036854775808 ≤ wrap64 a ∧ wrap64 a ≤ 9223372036854775807 := by unfold wrap64; omega
theorem infoN : (Try.prog.info? 120).map (fun i => (i.zero, i.size, i.bytes)) = some (some (.agg #[.string ⟨#[]⟩, .int .i64 0, .string ⟨#[]⟩, .slice none 0 0, .slice none 0 0]), 5, 88) := by kernel_rfl
theorem infoG : (Try.prog.info? 58).map (fun i => (i.zero, i.size, i.bytes)) = some (some (.agg #[.string ⟨#[]⟩, .slice none 0 0, .int .i64 0, .string ⟨#[]⟩, .slice none 0 0, .slice none 0 0]), 6, 112) := by kernel_rfl
theorem infoTz : (Try.prog.info? 31).map (fun i => (i.zero, i.size, i.bytes)) = some (some (.agg #[.int .i64 0, .string ⟨#[]⟩, .slice none 0 0, .slice none 0 0]), 4, 72) := by kernel_rfl
theorem infoS : (Try.prog.info? 9).map (fun i => (i.zero, i.size, i.bytes)) = some (some (.string ⟨#[]⟩), 1, 16) := by kernel_rfl
end Sp
end Go.Proofs.Yteooafgdmpbjeab
