/- What stays while a law builds its schema: the blocks that it writes itself, and the rows that it gathers, are others. -/
import Derived.Test.YteooafgdmpbjeabU22
import Derived.ProofKit
import Derived.OpenShut
import Derived.ChangeOld
import Derived.ChangeArms
import Derived.Test.YteooafgdmpbjeabU7
import Derived.Test.YteooafgdmpbjeabU4
import Derived.Test.YteooafgdmpbjeabU8
import Derived.Test.YteooafgdmpbjeabU13
namespace Go.Proofs.Yteooafgdmpbjeab
open Go.RowKit
namespace Sp
open Sc
/-- Blocks that stay: none of X, none of a row that is still gathered. -/
def Free (w : World) (X : List Nat) (vs : List Value) (g : Nat) : Prop := g < w.heap.size ∧ g ∉ X ∧ ∀ v ∈ vs, v.ownBlock ≠ some g
/-- What stays does stay. -/
def Step (X : List Nat) (vs vs' : List Value) (w w' : World) : Prop := ∀ g, Free w X vs g → Free w' X vs' g ∧ w'.heap[g]? = w.heap[g]?
theorem Step.trans {X : List Nat} {u v x : List Value} {a b c : World} (h : Step X u v a b) (k : Step X v x b c) : Step X u x a c :=
  fun g hg => ⟨(k g (h g hg).1).1, (k g (h g hg).1).2.trans (h g hg).2⟩
theorem Step.below {X : List Nat} {vs : List Value} {w w' : World} (h : Below w.heap.size w w') : Step X vs vs w w' :=
  fun g hg => ⟨⟨Nat.lt_of_lt_of_le hg.1 h.size, hg.2⟩, h.block g hg.1⟩
theorem Step.alloc {X : List Nat} {vs : List Value} (w : World) (o : Obj) : Step X vs vs w (w.alloc o) := Step.below ((Below.refl _ _).alloc (Nat.le_refl _) o)
theorem Step.only {X : List Nat} {vs : List Value} {w w' : World} {b : Nat} (hb : b ∈ X) (h : Only b w w') : Step X vs vs w w' :=
  fun g hg => ⟨⟨Nat.lt_of_lt_of_le hg.1 h.size, hg.2⟩, h.block g hg.1 (fun e => hg.2.1 (by cases e; exact hb))⟩
theorem TzV.step {X : List Nat} {vs vs' : List Value} {w w' : World} {t : Tz} {c : C4} (h : TzV w (Free w X vs) t c) (hs : Step X vs vs' w w') : TzV w' (Free w' X vs') t c := h.keep (fun g hg => (hs g hg).1) (fun g hg => (hs g hg).2)
theorem TzV.any {X : List Nat} {vs : List Value} {w : World} {t : Tz} {c : C4} (h : TzV w (Free w X vs) t c) : TzV w (Any w) t c := h.keep (fun _ hg => hg.1) (fun _ _ => rfl)
/-- Things of a block of their own. -/
theorem RowV.blkF {w : World} {X : List Nat} {vs : List Value} {g k : Nat} {t : TypeId} {fr : Nat × Nat} {l : List (List Value)} {cs : Array Value} (h : w.heap[g]? = some (.cells cs t fr)) (hc : cs = l.flatten.toArray) (hk : ∀ x ∈ l, x.length = k) (hF : Free w X vs g) : RowV w (Free w X vs) (some ⟨g, 0, none⟩) k l := by
  refine .inr ⟨g, 0, rfl, hF, fun i hi j v hv => ?_⟩
  have := flat_at l hk i hi j v hv
  rw [Nat.zero_add]
  subst hc
  simp [World.cell?, h, this]
theorem TzV.kidF {w : World} {X : List Nat} {vs : List Value} {g : Nat} {ty : TypeId} {fr : Nat × Nat} {t : Tz} {c : C4} (k : Int) (h : w.heap[g]? = some (.cells #[.int .i64 c.k, .string c.n, .slice c.an c.ln c.cn, .slice c.ak c.lk c.ck] ty fr)) (hF : Free w X vs g) (hV : TzV w (Free w X vs) t c) :
    TzV w (Free w X vs) (.mk k [] [] [t]) ⟨k, ⟨#[]⟩, none, 0, 0, some ⟨g, 0, none⟩, 1, 1⟩ :=
  .mk k [] [] [t] none 0 (some ⟨g, 0, none⟩) 1 [c] rfl (.inl rfl) (RowV.blkF (l := [c].map C4.cells) h rfl (cells4_len [c]) hF) (fun i h h' => by
    match i, h with
    | 0, _ => exact hV)
/-- A block behind all that there was. -/
theorem Free.new {w w' : World} {X : List Nat} {vs : List Value} {g : Nat} (h1 : w.heap.size ≤ g) (h2 : g < w'.heap.size) (hX : ∀ x ∈ X, x < w.heap.size) (hv : ∀ v ∈ vs, ∀ k, v.ownBlock = some k → k < w.heap.size) : Free w' X vs g :=
  ⟨h2, fun e => by have := hX g e; omega, fun v hm e => by have := hv v hm g e; omega⟩
def put4 (w : World) (b : Nat) (c : C4) : World :=
  (((w.setCell ⟨b, 0, none⟩ (.int .i64 c.k)).setCell ⟨b, 1, none⟩ (.string c.n)).setCell ⟨b, 2, none⟩ (.slice c.an c.ln c.cn)).setCell ⟨b, 3, none⟩ (.slice c.ak c.lk c.ck)
theorem put4_size (w : World) (b : Nat) (c : C4) : (put4 w b c).heap.size = w.heap.size := by simp [put4]
theorem put4_only (w : World) (b : Nat) (c : C4) : Only b w (put4 w b c) := ((((Only.refl b w).setCell 0 _).setCell 1 _).setCell 2 _).setCell 3 _
theorem put4_at {w : World} {b : Nat} {v0 v1 v2 v3 : Value} {ty : TypeId} {fr : Nat × Nat} (h : w.heap[b]? = some (.cells #[v0, v1, v2, v3] ty fr)) (c : C4) :
    (put4 w b c).heap[b]? = some (.cells #[.int .i64 c.k, .string c.n, .slice c.an c.ln c.cn, .slice c.ak c.lk c.ck] ty fr) := by
  simp [put4, World.setCell, Array.getElem?_modify, h]
/-- A variable holds a type; nothing else was turned. -/
structure Held (X : List Nat) (vs : List Value) (tb : Nat) (ty : TypeId) (w w' : World) (t : Tz) (c : C4) : Prop where
  at_ : w'.heap[tb]? = some (.cells #[.int .i64 c.k, .string c.n, .slice c.an c.ln c.cn, .slice c.ak c.lk c.ck] ty (0, 0))
  val : TzV w' (Free w' X vs) t c
  only : Only tb w w'
  step : Step X vs vs w w'
theorem nest_kid {wr : World} {X : List Nat} {vs : List Value} {tb : Nat} {ty ty2 : TypeId} {v0 v1 v2 v3 : Value} {t : Tz} {c : C4} (k : Int) (hb : wr.heap[tb]? = some (.cells #[v0, v1, v2, v3] ty (0, 0))) (hV : TzV wr (Free wr X vs) t c) (hX : ∀ x ∈ X, x < wr.heap.size) (htb : tb ∈ X) (hv : ∀ v ∈ vs, ∀ k, v.ownBlock = some k → k < wr.heap.size) :
    Held X vs tb ty wr ((put4 wr tb ⟨k, ⟨#[]⟩, none, 0, 0, some ⟨wr.heap.size, 0, none⟩, 1, 1⟩).alloc (.cells #[.int .i64 c.k, .string c.n, .slice c.an c.ln c.cn, .slice c.ak c.lk c.ck] ty2)) (.mk k [] [] [t]) ⟨k, ⟨#[]⟩, none, 0, 0, some ⟨wr.heap.size, 0, none⟩, 1, 1⟩ := by
  have hs : Step X vs vs wr ((put4 wr tb ⟨k, ⟨#[]⟩, none, 0, 0, some ⟨wr.heap.size, 0, none⟩, 1, 1⟩).alloc (.cells #[.int .i64 c.k, .string c.n, .slice c.an c.ln c.cn, .slice c.ak c.lk c.ck] ty2)) := (Step.only htb (put4_only _ _ _)).trans (Step.alloc _ _)
  have hz := put4_size wr tb ⟨k, ⟨#[]⟩, none, 0, 0, some ⟨wr.heap.size, 0, none⟩, 1, 1⟩
  refine ⟨?_, TzV.kidF (ty := ty2) (fr := (0, 0)) k (by rw [blk_if, if_pos hz.symm]) (Free.new (Nat.le_refl _) (by simp [hz]) hX hv) (hV.step hs), (put4_only _ _ _).trans (Only.alloc _ _ _), hs⟩
  have := hX tb htb
  rw [blk_if, if_neg (by omega)]
  exact put4_at hb _
theorem RowV.own {w : World} {S : Nat → Prop} {base k : Nat} {e : TypeId} {v : Value} {n : Nat} {l : List (List Value)} (h : w.ownsRow base e k v n l.flatten) (hk : ∀ x ∈ l, x.length = k) (hn : n = l.length) (hS : ∀ g, v.ownBlock = some g → S g) : ∃ a c, v = .slice a n c ∧ RowV w S a k l := by
  rcases h.2 with ⟨rfl, h0⟩ | ⟨g, cap, cur, rfl, _, hg, _⟩
  · refine ⟨none, 0, by rw [h0], .inl ?_⟩
    rw [h0] at hn
    exact List.eq_nil_of_length_eq_zero hn.symm
  · refine ⟨_, cap, rfl, .inr ⟨g, 0, rfl, hS g rfl, fun i hi j x hx => ?_⟩⟩
    have a := h.cells (g := g) rfl _ x (flat_at l hk i hi j x hx)
    rw [Nat.zero_add]
    have e : (⟨g, 0, none⟩ : Addr).add (i * k + j) = ⟨g, i * k + j, none⟩ := by unfold Addr.add; split <;> simp_all
    rw [← e]; exact a
theorem addr_addZ (b j : Nat) : (⟨b, 0, none⟩ : Addr).add j = ⟨b, j, none⟩ := by unfold Addr.add; split <;> simp_all
theorem cells_newZ (w : World) (l : List Value) (t : TypeId) : ∀ (j : Nat) (u : Value), l[j]? = some u → (w.alloc (.cells l.toArray t)).cell? ((⟨w.heap.size, 0, none⟩ : Addr).add j) = some u := by
  intro j u h
  rw [addr_addZ]
  have hb := heap_alloc_new w (.cells l.toArray t)
  unfold World.cell?
  simp only [hb]
  simpa using h
theorem six_blkF {w : World} {b : Nat} {t : TypeId} {v0 v1 v2 v3 v4 v5 : Value} (h : w.heap[b]? = some (.cells #[v0, v1, v2, v3, v4, v5] t (0, 0))) :
    (w.cell? ⟨b, 0, none⟩ = some v0 ∧ w.cell? ⟨b, 1, none⟩ = some v1 ∧ w.cell? ⟨b, 2, none⟩ = some v2 ∧ w.cell? ⟨b, 3, none⟩ = some v3 ∧ w.cell? ⟨b, 4, none⟩ = some v4 ∧ w.cell? ⟨b, 5, none⟩ = some v5) ∧
    (w.frozen? ⟨b, 0, none⟩ = false ∧ w.frozen? ⟨b, 1, none⟩ = false ∧ w.frozen? ⟨b, 2, none⟩ = false ∧ w.frozen? ⟨b, 3, none⟩ = false ∧ w.frozen? ⟨b, 4, none⟩ = false ∧ w.frozen? ⟨b, 5, none⟩ = false) := by
  refine ⟨⟨?_, ?_, ?_, ?_, ?_, ?_⟩, ⟨?_, ?_, ?_, ?_, ?_, ?_⟩⟩ <;> simp [World.cell?, World.frozen?, h]
theorem own_sliceZ {w : World} {base : Nat} {e : TypeId} {size : Nat} {v : Value} {n : Nat} {xs : List Value} (h : w.ownsRow base e size v n xs) : ∃ a c, v = .slice a n c := by
  rcases h.2 with ⟨rfl, h0⟩ | ⟨g, cap, cur, rfl, _⟩
  · exact ⟨none, 0, by rw [h0]⟩
  · exact ⟨_, cap, rfl⟩
theorem below_grown {B : Nat} {w w' : World} {r : Option Nat} (h : w.grownBy w' r) (hr : ∀ k, r = some k → B ≤ k) (hB : B ≤ w.heap.size) : Below B w w' :=
  ⟨h.os, h.tape, h.output, h.size, fun k hk => h.block k (Nat.lt_of_lt_of_le hk hB) (fun e => by have := hr k e.symm; omega)⟩
theorem infoTz : (Try.prog.info? 31).map (fun i => (i.zero, i.size, i.bytes)) = some (some (.agg #[.int .i64 0, .string ⟨#[]⟩, .slice none 0 0, .slice none 0 0]), 4, 72) := by kernel_rfl
theorem infoS : (Try.prog.info? 9).map (fun i => (i.zero, i.size, i.bytes)) = some (some (.string ⟨#[]⟩), 1, 16) := by kernel_rfl
end Sp
end Go.Proofs.Yteooafgdmpbjeab
namespace Go.Proofs.Yteooafgdmpbjeab
open Go.RowKit
namespace Sp
open Sc
theorem ret_boolZ {a b : Bool} (h : a = b) : Ending.returned (.bool a) = .returned (.bool b) := by rw [h]
end Sp
end Go.Proofs.Yteooafgdmpbjeab
namespace Go.Proofs.Yteooafgdmpbjeab
open Go.RowKit
namespace Sp
open Sc
set_option maxRecDepth 100000
def idxI (L : List (List UInt8)) (s : List UInt8) : Int := if s ∈ L then (L.idxOf s : Nat) else -1
theorem idxOf_first : ∀ (L : List (List UInt8)) (s : List UInt8) (k : Nat) (h : k < L.length), L[k] = s → (∀ i (hi : i < L.length), i < k → L[i] ≠ s) → L.idxOf s = k
  | x :: L, s, 0, _, e, _ => by simp at e; subst e; simp
  | x :: L, s, k + 1, h, e, hd => by
    have hx : x ≠ s := hd 0 (by simp) (by omega)
    rw [List.idxOf_cons, beq_eq_false_iff_ne.2 hx, cond_false]
    rw [idxOf_first L s k (by simpa using h) (by simpa using e) (fun i hi hik => by have := hd (i + 1) (by simpa using hi) (by omega); simpa using this)]
theorem sindex_any (L : List (List UInt8)) (s : List UInt8) (la : Option Addr) (lc : Nat) (w : World) (hR : RowV w (Any w) la 1 (L.map fun n => [str n])) (hl : L.length ≤ maxLen) :
    Calls Try.prog 86 #[.slice la L.length lc, .string ⟨s.toArray⟩] w fun e w' => e = .returned (.int .i64 (idxI L s)) ∧ w = w' := by
  unfold maxLen at hl
  have HR := Lib.hid hR
  clear hR
  generalize hB : idxI L s = B
  have HB := Lib.hid hB
  clear hB
  go_enter Try.func86, Try.ntmps86
  go_wp2
  go_loop [8] (fun kv => ∃ k : Nat, k ≤ L.length ∧ kv = .int .i64 k ∧ Hid (∀ i (h : i < L.length), i < k → L[i] ≠ s)) (fun kv => L.length - (intOf kv).toNat)
  case atStart => exact ⟨0, Nat.zero_le _, rfl, fun i h hi => by omega⟩
  case round =>
    obtain ⟨k, hk, rfl, hd⟩ := hrel
    by_cases hlt : k < L.length
    · have hkz : (k : Int) < (L.length : Int) := by omega
      have hk0 : (0 : Int) ≤ (k : Int) := by omega
      obtain ⟨g, o, rfl, hg, hc⟩ := name_at HR.out (fun _ h => h) k hlt
      have c0 := hc w (Below.refl _ _)
      have e1 := toList_mk' L[k]
      by_cases he : L[k] = s
      · have hb : B = (k : Int) := by
          rw [← HB.out, idxI, if_pos (by rw [← he]; exact List.getElem_mem hlt), idxOf_first L s k hlt he hd.out]
        have hq : (s == L[k]) = true := by simpa using he.symm
        have HBB := Lib.hid hb
        clear hb hc he
        generalize L[k] = a at *
        go_wp2
        go_ret
        exact ⟨ret_intZ HBB.out.symm, rfl⟩
      · have hq : (s == L[k]) = false := by simpa using fun e => he e.symm
        have hd' : ∀ i (h : i < L.length), i < k + 1 → L[i] ≠ s := fun i h hi => by
          by_cases e : i = k
          · subst e; exact he
          · exact hd.out i h (by omega)
        have HD := Lib.hid hd'
        clear hd' hd hc he
        generalize L[k] = a at *
        go_wp2
        go_round
        case rel => exact ⟨k + 1, by omega, by go_num, HD⟩
        case measure => simp [intOf]; omega
    · have hkz : ¬ (k : Int) < (L.length : Int) := by omega
      have hb : B = -1 := by
        rw [← HB.out, idxI, if_neg]
        intro h
        obtain ⟨i, hi, e⟩ := List.mem_iff_getElem.1 h
        exact hd.out i hi (by omega) e
      have HBB := Lib.hid hb
      clear hb hd
      go_wp2
      go_ret
      exact ⟨ret_intZ HBB.out.symm, rfl⟩
end Sp
end Go.Proofs.Yteooafgdmpbjeab
