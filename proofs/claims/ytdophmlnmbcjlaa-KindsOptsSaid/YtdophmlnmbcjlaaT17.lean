/- Schemas that a law makes: how they lie in memory. -/
import Derived.Test.YtdophmlnmbcjlaaT16
import Derived.Test.YtdophmlnmbcjlaaT1
import Derived.Test.YtdophmlnmbcjlaaRows
import Derived.WalkKit
import Derived.Laws.AppendOwn
namespace Go.Proofs.Ytdophmlnmbcjlaa
open Go.RowKit
namespace Sp
open Sc
theorem flat_at {k : Nat} : ∀ (l : List (List Value)), (∀ x ∈ l, x.length = k) → ∀ (i : Nat) (h : i < l.length) (j : Nat) (v : Value), (l[i])[j]? = some v → l.flatten[i * k + j]? = some v
  | x :: l, hk, 0, _, j, v, hv => by
    rw [List.getElem_cons_zero] at hv
    rw [Nat.zero_mul, Nat.zero_add, List.flatten_cons, List.getElem?_append_left (List.getElem?_eq_some_iff.1 hv).1]; exact hv
  | x :: l, hk, i + 1, h, j, v, hv => by
    have hx : x.length = k := hk x List.mem_cons_self
    rw [List.getElem_cons_succ] at hv
    have ih := flat_at l (fun y hy => hk y (List.mem_cons_of_mem _ hy)) i (by simpa using h) j v hv
    rw [List.flatten_cons, Nat.succ_mul, List.getElem?_append_right (by omega), hx, show i * k + k + j - k = i * k + j by omega]
    exact ih
/-- Every block that there is. -/
abbrev Any (w : World) (g : Nat) : Prop := g < w.heap.size
theorem RowV.blk {w : World} {g k : Nat} {t : TypeId} {fr : Nat × Nat} {l : List (List Value)} {cs : Array Value} (h : w.heap[g]? = some (.cells cs t fr)) (hc : cs = l.flatten.toArray) (hk : ∀ x ∈ l, x.length = k) : RowV w (Any w) (some ⟨g, 0, none⟩) k l := by
  refine .inr ⟨g, 0, rfl, (Array.getElem?_eq_some_iff.1 h).1, fun i hi j v hv => ?_⟩
  have := flat_at l hk i hi j v hv
  rw [Nat.zero_add]
  subst hc
  simp [World.cell?, h, this]
theorem TzV.leaf (w : World) (S : Nat → Prop) (k : Int) (n : List UInt8) : TzV w S (.mk k n [] []) ⟨k, ⟨n.toArray⟩, none, 0, 0, none, 0, 0⟩ :=
  .mk k n [] [] none 0 none 0 [] rfl (.inl rfl) (.inl rfl) (fun i h => by cases h)
theorem cells4_len (us : List C4) : ∀ x ∈ us.map C4.cells, x.length = 4 := fun x hx => by obtain ⟨y, _, rfl⟩ := List.mem_map.1 hx; rfl
theorem encG_len (us : List (List UInt8 × G6)) : ∀ x ∈ us.map encG, x.length = 6 := fun x hx => by obtain ⟨y, _, rfl⟩ := List.mem_map.1 hx; rfl
theorem str1_len (ns : List (List UInt8)) : ∀ x ∈ ns.map (fun n => [str n]), x.length = 1 := fun x hx => by obtain ⟨y, _, rfl⟩ := List.mem_map.1 hx; rfl
/-- A type with one kid. -/
theorem TzV.kid {w : World} {g : Nat} {ty : TypeId} {fr : Nat × Nat} {t : Tz} {c : C4} (k : Int) (h : w.heap[g]? = some (.cells #[.int .i64 c.k, .string c.n, .slice c.an c.ln c.cn, .slice c.ak c.lk c.ck] ty fr)) (hV : TzV w (Any w) t c) :
    TzV w (Any w) (.mk k [] [] [t]) ⟨k, ⟨#[]⟩, none, 0, 0, some ⟨g, 0, none⟩, 1, 1⟩ :=
  .mk k [] [] [t] none 0 (some ⟨g, 0, none⟩) 1 [c] rfl (.inl rfl) (RowV.blk (l := [c].map C4.cells) h rfl (cells4_len [c])) (fun i h h' => by
    match i, h with
    | 0, _ => exact hV)
/-- Blocks one behind the other. -/
def allocs (w : World) : List Obj → World
  | [] => w
  | o :: l => allocs (w.alloc o) l
theorem allocs_size : ∀ (l : List Obj) (w : World), (allocs w l).heap.size = w.heap.size + l.length
  | [], w => rfl
  | o :: l, w => by rw [allocs, allocs_size l]; simp; omega
theorem allocs_below : ∀ (l : List Obj) (w : World), Below w.heap.size w (allocs w l)
  | [], w => Below.refl _ _
  | o :: l, w => ((Below.refl _ _).alloc (Nat.le_refl _) o).trans ((allocs_below l (w.alloc o)).mono (by simp))
theorem allocs_at : ∀ (l : List Obj) (w : World) (i : Nat) (h : i < l.length), (allocs w l).heap[w.heap.size + i]? = some l[i]
  | o :: l, w, 0, _ => by
    have h1 := heap_alloc_new w o
    have h2 := (allocs_below l (w.alloc o)).block w.heap.size (by simp)
    exact h2.trans h1
  | o :: l, w, i + 1, h => by
    have ih := allocs_at l (w.alloc o) i (by simpa using h)
    rw [show (w.alloc o).heap.size + i = w.heap.size + (i + 1) by simp; omega] at ih
    exact ih
/-- Named types that lie in a row; functions that do. -/
structure NmsV (w : World) (S : Nat → Prop) (l : List NT) (a : Option Addr) (us : List (List UInt8 × C4)) : Prop where
  nt : us.length = l.length
  rt : RowV w S a 5 (us.map encZ)
  vt : ∀ i (h : i < l.length) (h' : i < us.length), us[i].1 = l[i].1 ∧ TzV w S l[i].2 us[i].2
structure SgsV (w : World) (S : Nat → Prop) (l : List Sg) (a : Option Addr) (gs : List (List UInt8 × G6)) : Prop where
  ng : gs.length = l.length
  rg : RowV w S a 6 (gs.map encG)
  vg : ∀ i (h : i < l.length) (h' : i < gs.length), SgV w S l[i] gs[i]
theorem SzV.build {w : World} {S : Nat → Prop} {m : Tz} {c : C4} {l : List NT} {k : List Sg} {a1 a2 : Option Addr} {us : List (List UInt8 × C4)} {gs : List (List UInt8 × G6)} (h1 : TzV w S m c) (h2 : NmsV w S l a1 us) (h3 : SgsV w S k a2 gs) :
    SzV w S ⟨m, l, k⟩ c a1 us a2 gs := ⟨h1, h2.nt, h2.rt, h2.vt, h3.ng, h3.rg, h3.vg⟩
theorem NmsV.nil {w : World} {S : Nat → Prop} (a : Option Addr) : NmsV w S [] a [] := ⟨rfl, .inl rfl, fun i h => by cases h⟩
theorem SgsV.nil {w : World} {S : Nat → Prop} (a : Option Addr) : SgsV w S [] a [] := ⟨rfl, .inl rfl, fun i h => by cases h⟩
theorem SgsV.one {w : World} {g : Nat} {ty : TypeId} {fr : Nat × Nat} {s : Sg} {x : List UInt8 × G6} (h : w.heap[g]? = some (.cells #[.string ⟨x.1.toArray⟩, .slice x.2.ap x.2.lp x.2.cp, .int .i64 x.2.c.k, .string x.2.c.n, .slice x.2.c.an x.2.c.ln x.2.c.cn, .slice x.2.c.ak x.2.c.lk x.2.c.ck] ty fr)) (hV : SgV w (Any w) s x) :
    SgsV w (Any w) [s] (some ⟨g, 0, none⟩) [x] :=
  ⟨rfl, RowV.blk (l := [x].map encG) h rfl (encG_len [x]), fun i h h' => by
    match i, h with
    | 0, _ => exact hV⟩
def fitS (s : Sz) : Bool := fitZ s.main && (s.types.all (fun x => decide (x.1.length ≤ maxLen) && fitZ x.2) && s.sigs.all fitG)
theorem SzFit.of {s : Sz} (h : fitS s = true) : SzFit s := by
  unfold fitS at h
  simp only [Bool.and_eq_true, List.all_eq_true, decide_eq_true_eq] at h
  exact ⟨h.1, fun i hi => h.2.1 _ (List.getElem_mem hi), fun i hi => h.2.2 _ (List.getElem_mem hi)⟩
theorem ret_intZ {a b : Int} (h : a = b) : Ending.returned (.int .i64 a) = .returned (.int .i64 b) := by rw [h]
end Sp
end Go.Proofs.Ytdophmlnmbcjlaa
namespace Go.Proofs.Ytdophmlnmbcjlaa
namespace Sp
open Sc
def zI : Tz := .mk 2 [] [] []
end Sp
end Go.Proofs.Ytdophmlnmbcjlaa
namespace Go.Proofs.Ytdophmlnmbcjlaa
open Go.RowKit
namespace Sp
open Sc
/-- A block of a chain of new ones. -/
theorem blk_if (w : World) (o : Obj) (n : Nat) : (w.alloc o).heap[n]? = if n = w.heap.size then some o else w.heap[n]? := by
  split
  · next h => subst h; exact heap_alloc_new w o
  · next h =>
    by_cases hl : n < w.heap.size
    · exact Below.heap_alloc _ _ _ hl
    · rw [Array.getElem?_eq_none (by simp; omega), Array.getElem?_eq_none (by omega)]
end Sp
end Go.Proofs.Ytdophmlnmbcjlaa
namespace Go.Proofs.Ytdophmlnmbcjlaa
open Go.RowKit
namespace Sh
theorem run_append_fresh {P : Program} (w : World) (base : Nat) (t ty e : TypeId) (i : TypeInfo) (z : Value) (size bytes : Nat) (ht : P.underlying t = some (.slice e)) (hi : P.info? e = some i) (hz : i.zero = some z)
    (hsize : i.size = size) (hby : i.bytes = bytes) (hzs : z.cells.size = size) (hsz : 0 < size)
    (v : Value) (n : Nat) (xs : List Value) (hown : w.ownsRow base e size v n xs)
    (a : Addr) (m c : Nat) (news : List Value) (hl : news.length = m * size) (hnews : ∀ j u, news[j]? = some u → w.cell? (a.add j) = some u) (h1 : ∀ u ∈ news, u.oneCell' = true)
    (h63 : n + m ≤ maxLen) (hbytes : (n + m) * bytes ≤ 140737488355328) (hbase : base ≤ w.heap.size) :
    ∃ v' w', (Builtin.append_ #[t, t] ty #[v, .slice (some a) m c]).run P w = .ok v' w' ∧ w'.ownsRow base e size v' (n + m) (xs ++ news) ∧ w.grownBy w' v.ownBlock ∧
      ∀ k, v'.ownBlock = some k → v.ownBlock = some k ∨ w.heap.size ≤ k := by
  obtain ⟨v', w', hr, h2, h3, _⟩ := run_append_own (P := P) w base t ty e i z size bytes ht hi hz hsize hby hzs hsz v n xs hown a m c news hl hnews h1 h63 hbytes hbase
  refine ⟨v', w', hr, h2, h3, fun k hk => ?_⟩
  rcases hown.2 with ⟨rfl, rfl⟩ | ⟨g, cap, cur, rfl, hbg, hg, hnc, hcm, hcs, htake⟩
  · obtain ⟨v2, w2, hr2, h4, _⟩ := run_append_own (P := P) w w.heap.size t ty e i z size bytes ht hi hz hsize hby hzs hsz (.slice none 0 0) 0 [] (World.ownsRow_nil w w.heap.size e size) a m c news hl hnews h1 h63 hbytes (Nat.le_refl _)
    rw [hr] at hr2
    cases hr2
    exact .inr (h4.lt k hk).1
  · by_cases hroom : n + m ≤ cap
    · have hr2 := run_append_room (P := P) w t ty e i ht hi g n cap cur hg a m c news (by rw [hl, hsize]) hnews h1 hroom (by rw [hl, hcs, hsize, ← Nat.add_mul]; exact Nat.mul_le_mul_right _ hroom)
      rw [hr] at hr2
      cases hr2
      exact .inl hk
    · have hsmall : n + m ≤ 9223372036854775807 := by simp only [maxLen] at h63; omega
      have hr2 := run_append_grow (P := P) w t ty e i z ht hi hz ⟨g, 0, none⟩ n cap xs (by rw [hown.1, hsize]) (hown.cells (g := g) rfl) a m c news (by rw [hl, hsize]) hnews (by omega) (by omega) (growslice_fits (by omega) (by rw [hby]; exact hbytes))
      rw [hr] at hr2
      cases hr2
      simp only [Value.ownBlock, Option.some.injEq] at hk
      exact .inr (by omega)
theorem wp_append_fresh {P : Program} {o : Oper} {a : Act} {w : World} {K : Act → World → Prop} {Q : Exit → Act → World → Prop} (s x : Operand) (t : TypeId)
    (ho : o.op = .call { callee := .builtin .append, args := #[s, x], argTypes := #[t, t] })
    (base : Nat) (e : TypeId) (i : TypeInfo) (z : Value) (size bytes : Nat) (ht : P.underlying t = some (.slice e)) (hi : P.info? e = some i) (hz : i.zero = some z)
    (hsize : i.size = size) (hby : i.bytes = bytes) (hzs : z.cells.size = size) (hsz : 0 < size)
    (v : Value) (n : Nat) (xs : List Value) (hs : a.eval s = v) (hown : w.ownsRow base e size v n xs)
    (ad : Addr) (m c : Nat) (news : List Value) (hx : a.eval x = .slice (some ad) m c) (hl : news.length = m * size) (hnews : ∀ j u, news[j]? = some u → w.cell? (ad.add j) = some u) (h1 : ∀ u ∈ news, u.oneCell' = true)
    (h63 : n + m ≤ maxLen) (hbytes : (n + m) * bytes ≤ 140737488355328) (hbase : base ≤ w.heap.size)
    (h : ∀ v' w', w'.ownsRow base e size v' (n + m) (xs ++ news) → w.grownBy w' v.ownBlock → (∀ k, v'.ownBlock = some k → v.ownBlock = some k ∨ w.heap.size ≤ k) → K (a.put o.dst v') w') : o.wp P a w K Q := by
  obtain ⟨v', w', hr, h2, h3, h4⟩ := run_append_fresh (P := P) w base t o.type e i z size bytes ht hi hz hsize hby hzs hsz v n xs hown ad m c news hl hnews h1 h63 hbytes hbase
  have hgo := h v' w' h2 h3 h4
  simp only [Oper.wp, execOp, ho, resolve, invoke, builtin, Sem.run_bind, Sem.run_pure, Result.andThen_ok, List.map_toArray, List.map_cons, List.map_nil, hs, hx, hr]
  exact hgo
/-- The law of append, with the place of what comes out. -/
theorem wpList_append_fresh {P : Program} {ops : Array Oper} {rest : List Oper} {o : Oper} {a : Act} {w : World} {Q : Exit → Act → World → Prop} (hgd : o.guard = none) (s x : Operand) (t : TypeId)
    (ho : o.op = .call { callee := .builtin .append, args := #[s, x], argTypes := #[t, t] })
    (base : Nat) (e : TypeId) (i : TypeInfo) (z : Value) (size bytes : Nat) (ht : P.underlying t = some (.slice e)) (hi : P.info? e = some i) (hz : i.zero = some z)
    (hsize : i.size = size) (hby : i.bytes = bytes) (hzs : z.cells.size = size) (hsz : 0 < size)
    (v : Value) (n : Nat) (xs : List Value) (hs : a.eval s = v) (hown : w.ownsRow base e size v n xs)
    (ad : Addr) (m c : Nat) (news : List Value) (hx : a.eval x = .slice (some ad) m c) (hl : news.length = m * size) (hnews : ∀ j u, news[j]? = some u → w.cell? (ad.add j) = some u) (h1 : ∀ u ∈ news, u.oneCell' = true)
    (h63 : n + m ≤ maxLen) (hbytes : (n + m) * bytes ≤ 140737488355328) (hbase : base ≤ w.heap.size)
    (h : ∀ v' w', w'.ownsRow base e size v' (n + m) (xs ++ news) → w.grownBy w' v.ownBlock → (∀ k, v'.ownBlock = some k → v.ownBlock = some k ∨ w.heap.size ≤ k) → wpList P ops Q rest (a.put o.dst v') w') : wpList P ops Q (o :: rest) a w :=
  wpList_plain hgd fun _ hK => wp_append_fresh s x t ho base e i z size bytes ht hi hz hsize hby hzs hsz v n xs hs hown ad m c news hx hl hnews h1 h63 hbytes hbase fun v' w' h2 h3 h4 => hK _ _ (h v' w' h2 h3 h4)
end Sh
end Go.Proofs.Ytdophmlnmbcjlaa
namespace Go.Proofs.Ytdophmlnmbcjlaa
open Go.RowKit
namespace Sp
open Sc
def put4 (w : World) (b : Nat) (c : C4) : World :=
  (((w.setCell ⟨b, 0, none⟩ (.int .i64 c.k)).setCell ⟨b, 1, none⟩ (.string c.n)).setCell ⟨b, 2, none⟩ (.slice c.an c.ln c.cn)).setCell ⟨b, 3, none⟩ (.slice c.ak c.lk c.ck)
theorem put4_size (w : World) (b : Nat) (c : C4) : (put4 w b c).heap.size = w.heap.size := by simp [put4]
theorem put4_only (w : World) (b : Nat) (c : C4) : Only b w (put4 w b c) := ((((Only.refl b w).setCell 0 _).setCell 1 _).setCell 2 _).setCell 3 _
theorem put4_at {w : World} {b : Nat} {v0 v1 v2 v3 : Value} {ty : TypeId} {fr : Nat × Nat} (h : w.heap[b]? = some (.cells #[v0, v1, v2, v3] ty fr)) (c : C4) :
    (put4 w b c).heap[b]? = some (.cells #[.int .i64 c.k, .string c.n, .slice c.an c.ln c.cn, .slice c.ak c.lk c.ck] ty fr) := by
  simp [put4, World.setCell, Array.getElem?_modify, h]
theorem RowV.own {w : World} {S : Nat → Prop} {base k : Nat} {e : TypeId} {v : Value} {n : Nat} {l : List (List Value)} (h : w.ownsRow base e k v n l.flatten) (hk : ∀ x ∈ l, x.length = k) (hn : n = l.length) (hS : ∀ g, v.ownBlock = some g → S g) : ∃ a c, v = .slice a n c ∧ RowV w S a k l := by
  rcases h.2 with ⟨rfl, h0⟩ | ⟨g, cap, cur, rfl, _, hg, _⟩
  · refine ⟨none, 0, by rw [h0], .inl ?_⟩
    rw [h0] at hn
    exact List.eq_nil_of_length_eq_zero hn.symm
  · refine ⟨_, cap, rfl, .inr ⟨g, 0, rfl, hS g rfl, fun i hi j x hx => ?_⟩⟩
    have a := h.cells (g := g) rfl _ x (flat_at l hk i hi j x hx)
    rw [Nat.zero_add]
    have e : (⟨g, 0, none⟩ : Addr).add (i * k + j) = ⟨g, i * k + j, none⟩ := by unfold Addr.add; split <;> simp_all
    rw [← e]; exact a
theorem addr_addZ (b j : Nat) : (⟨b, 0, none⟩ : Addr).add j = ⟨b, j, none⟩ := by unfold Addr.add; split <;> simp_all
theorem cells_newZ (w : World) (l : List Value) (t : TypeId) : ∀ (j : Nat) (u : Value), l[j]? = some u → (w.alloc (.cells l.toArray t)).cell? ((⟨w.heap.size, 0, none⟩ : Addr).add j) = some u := by
  intro j u h
  rw [addr_addZ]
  have hb := heap_alloc_new w (.cells l.toArray t)
  unfold World.cell?
  simp only [hb]
  simpa using h
theorem six_blkF {w : World} {b : Nat} {t : TypeId} {v0 v1 v2 v3 v4 v5 : Value} (h : w.heap[b]? = some (.cells #[v0, v1, v2, v3, v4, v5] t (0, 0))) :
    (w.cell? ⟨b, 0, none⟩ = some v0 ∧ w.cell? ⟨b, 1, none⟩ = some v1 ∧ w.cell? ⟨b, 2, none⟩ = some v2 ∧ w.cell? ⟨b, 3, none⟩ = some v3 ∧ w.cell? ⟨b, 4, none⟩ = some v4 ∧ w.cell? ⟨b, 5, none⟩ = some v5) ∧
    (w.frozen? ⟨b, 0, none⟩ = false ∧ w.frozen? ⟨b, 1, none⟩ = false ∧ w.frozen? ⟨b, 2, none⟩ = false ∧ w.frozen? ⟨b, 3, none⟩ = false ∧ w.frozen? ⟨b, 4, none⟩ = false ∧ w.frozen? ⟨b, 5, none⟩ = false) := by
  refine ⟨⟨?_, ?_, ?_, ?_, ?_, ?_⟩, ⟨?_, ?_, ?_, ?_, ?_, ?_⟩⟩ <;> simp [World.cell?, World.frozen?, h]
theorem own_sliceZ {w : World} {base : Nat} {e : TypeId} {size : Nat} {v : Value} {n : Nat} {xs : List Value} (h : w.ownsRow base e size v n xs) : ∃ a c, v = .slice a n c := by
  rcases h.2 with ⟨rfl, h0⟩ | ⟨g, cap, cur, rfl, _⟩
  · exact ⟨none, 0, by rw [h0]⟩
  · exact ⟨_, cap, rfl⟩
theorem below_grown {B : Nat} {w w' : World} {r : Option Nat} (h : w.grownBy w' r) (hr : ∀ k, r = some k → B ≤ k) (hB : B ≤ w.heap.size) : Below B w w' :=
  ⟨h.os, h.tape, h.output, h.size, fun k hk => h.block k (Nat.lt_of_lt_of_le hk hB) (fun e => by have := hr k e.symm; omega)⟩
theorem below_set {B : Nat} {w : World} {b : Nat} (o : Nat) (v : Value) (hb : B ≤ b) (hB : B ≤ w.heap.size) : Below B w (w.setCell ⟨b, o, none⟩ v) := ((Only.refl b w).setCell o v).below hb hB
theorem wrap64_bd (a : Int) : -9223372036854775808 ≤ wrap64 a ∧ wrap64 a ≤ 9223372036854775807 := by unfold wrap64; omega
theorem infoTz : (Try.prog.info? 30).map (fun i => (i.zero, i.size, i.bytes)) = some (some (.agg #[.int .i64 0, .string ⟨#[]⟩, .slice none 0 0, .slice none 0 0]), 4, 72) := by kernel_rfl
theorem infoS : (Try.prog.info? 9).map (fun i => (i.zero, i.size, i.bytes)) = some (some (.string ⟨#[]⟩), 1, 16) := by kernel_rfl
end Sp
end Go.Proofs.Ytdophmlnmbcjlaa
