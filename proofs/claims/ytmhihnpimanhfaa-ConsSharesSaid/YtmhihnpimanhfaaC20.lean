/- What stays while a law builds its schema: the blocks that it writes itself, and the rows that it gathers, are others. -/
import Derived.Test.YtmhihnpimanhfaaC19
import Derived.ProofKit
import Derived.OpenShut
import Derived.ChangeOld
import Derived.ChangeArms
namespace Go.Proofs.Ytmhihnpimanhfaa
open Go.RowKit
namespace Sp
open Sc
def put4 (w : World) (b : Nat) (c : C4) : World :=
  (((w.setCell ⟨b, 0, none⟩ (.int .i64 c.k)).setCell ⟨b, 1, none⟩ (.string c.n)).setCell ⟨b, 2, none⟩ (.slice c.an c.ln c.cn)).setCell ⟨b, 3, none⟩ (.slice c.ak c.lk c.ck)
theorem put4_size (w : World) (b : Nat) (c : C4) : (put4 w b c).heap.size = w.heap.size := by simp [put4]
theorem put4_only (w : World) (b : Nat) (c : C4) : Only b w (put4 w b c) := ((((Only.refl b w).setCell 0 _).setCell 1 _).setCell 2 _).setCell 3 _
theorem put4_at {w : World} {b : Nat} {v0 v1 v2 v3 : Value} {ty : TypeId} {fr : Nat × Nat} (h : w.heap[b]? = some (.cells #[v0, v1, v2, v3] ty fr)) (c : C4) :
    (put4 w b c).heap[b]? = some (.cells #[.int .i64 c.k, .string c.n, .slice c.an c.ln c.cn, .slice c.ak c.lk c.ck] ty fr) := by
  simp [put4, World.setCell, Array.getElem?_modify, h]
theorem RowV.own {w : World} {S : Nat → Prop} {base k : Nat} {e : TypeId} {v : Value} {n : Nat} {l : List (List Value)} (h : w.ownsRow base e k v n l.flatten) (hk : ∀ x ∈ l, x.length = k) (hn : n = l.length) (hS : ∀ g, v.ownBlock = some g → S g) : ∃ a c, v = .slice a n c ∧ RowV w S a k l := by
  rcases h.2 with ⟨rfl, h0⟩ | ⟨g, cap, cur, rfl, _, hg, _⟩
  · refine ⟨none, 0, by rw [h0], .inl ?_⟩
    rw [h0] at hn
    exact List.eq_nil_of_length_eq_zero hn.symm
  · refine ⟨_, cap, rfl, .inr ⟨g, 0, rfl, hS g rfl, fun i hi j x hx => ?_⟩⟩
    have a := h.cells (g := g) rfl _ x (flat_at l hk i hi j x hx)
    rw [Nat.zero_add]
    have e : (⟨g, 0, none⟩ : Addr).add (i * k + j) = ⟨g, i * k + j, none⟩ := by unfold Addr.add; split <;> simp_all
    rw [← e]; exact a
theorem addr_addZ (b j : Nat) : (⟨b, 0, none⟩ : Addr).add j = ⟨b, j, none⟩ := by unfold Addr.add; split <;> simp_all
theorem cells_newZ (w : World) (l : List Value) (t : TypeId) : ∀ (j : Nat) (u : Value), l[j]? = some u → (w.alloc (.cells l.toArray t)).cell? ((⟨w.heap.size, 0, none⟩ : Addr).add j) = some u := by
  intro j u h
  rw [addr_addZ]
  have hb := heap_alloc_new w (.cells l.toArray t)
  unfold World.cell?
  simp only [hb]
  simpa using h
theorem six_blkF {w : World} {b : Nat} {t : TypeId} {v0 v1 v2 v3 v4 v5 : Value} (h : w.heap[b]? = some (.cells #[v0, v1, v2, v3, v4, v5] t (0, 0))) :
    (w.cell? ⟨b, 0, none⟩ = some v0 ∧ w.cell? ⟨b, 1, none⟩ = some v1 ∧ w.cell? ⟨b, 2, none⟩ = some v2 ∧ w.cell? ⟨b, 3, none⟩ = some v3 ∧ w.cell? ⟨b, 4, none⟩ = some v4 ∧ w.cell? ⟨b, 5, none⟩ = some v5) ∧
    (w.frozen? ⟨b, 0, none⟩ = false ∧ w.frozen? ⟨b, 1, none⟩ = false ∧ w.frozen? ⟨b, 2, none⟩ = false ∧ w.frozen? ⟨b, 3, none⟩ = false ∧ w.frozen? ⟨b, 4, none⟩ = false ∧ w.frozen? ⟨b, 5, none⟩ = false) := by
  refine ⟨⟨?_, ?_, ?_, ?_, ?_, ?_⟩, ⟨?_, ?_, ?_, ?_, ?_, ?_⟩⟩ <;> simp [World.cell?, World.frozen?, h]
theorem own_sliceZ {w : World} {base : Nat} {e : TypeId} {size : Nat} {v : Value} {n : Nat} {xs : List Value} (h : w.ownsRow base e size v n xs) : ∃ a c, v = .slice a n c := by
  rcases h.2 with ⟨rfl, h0⟩ | ⟨g, cap, cur, rfl, _⟩
  · exact ⟨none, 0, by rw [h0]⟩
  · exact ⟨_, cap, rfl⟩
theorem below_grown {B : Nat} {w w' : World} {r : Option Nat} (h : w.grownBy w' r) (hr : ∀ k, r = some k → B ≤ k) (hB : B ≤ w.heap.size) : Below B w w' :=
  ⟨h.os, h.tape, h.output, h.size, fun k hk => h.block k (Nat.lt_of_lt_of_le hk hB) (fun e => by have := hr k e.symm; omega)⟩
theorem wrap64_bd (a : Int) : -9223372036854775808 ≤ wrap64 a ∧ wrap64 a ≤ 9223372036854775807 := by unfold wrap64; omega
theorem infoTz : (Try.prog.info? 25).map (fun i => (i.zero, i.size, i.bytes)) = some (some (.agg #[.int .i64 0, .string ⟨#[]⟩, .slice none 0 0, .slice none 0 0]), 4, 72) := by kernel_rfl
theorem infoS : (Try.prog.info? 9).map (fun i => (i.zero, i.size, i.bytes)) = some (some (.string ⟨#[]⟩), 1, 16) := by kernel_rfl
end Sp
end Go.Proofs.Ytmhihnpimanhfaa
namespace Go.Proofs.Ytmhihnpimanhfaa
open Go.ChangeShapes Go.WideShapes Go.ChangeAt Go.RowKit
namespace Sp
open Sc
/-- What a type is made of. -/
inductive Rw where
  | mk (k n : Int) (ns : List Int) (ks : List Rw) : Rw
deriving Inhabited
/-- What a variable of that type holds. -/
structure R4 where
  k : Int
  n : Int
  an : Option Addr
  ln : Nat
  cn : Nat
  ak : Option Addr
  lk : Nat
  ck : Nat
deriving Inhabited
def R4.cells (c : R4) : List Value := [.int .i64 c.k, .int .i64 c.n, .slice c.an c.ln c.cn, .slice c.ak c.lk c.ck]
def I64 (n : Int) : Prop := -9223372036854775808 ≤ n ∧ n ≤ 9223372036854775807
theorem i64_of {n : Int} (h : (Lit.int .i64 n).wf = true) : I64 n := bounds_i64 h
/-- A Raw lies at these cells; all that it leads to lies in blocks that there are. -/
inductive RwV (w : World) : Rw → R4 → Prop where
  | mk (k n : Int) (ns : List Int) (ks : List Rw) (an : Option Addr) (cn : Nat) (ak : Option Addr) (ck : Nat) (us : List R4) (hk : I64 k) (hn : I64 n) (hi : ∀ i ∈ ns, I64 i) (hln : ns.length ≤ maxLen) (hlk : ks.length ≤ maxLen) (hl : us.length = ks.length)
      (ha : RowV w (Any w) an 1 (ns.map fun i => [.int .i64 i])) (hb : RowV w (Any w) ak 4 (us.map R4.cells)) (hu : ∀ i (h : i < ks.length) (h' : i < us.length), RwV w ks[i] us[i]) :
      RwV w (.mk k n ns ks) ⟨k, n, an, ns.length, cn, ak, ks.length, ck⟩
theorem RwV.later {w w' : World} {r : Rw} {c : R4} (h : RwV w r c) (hb : Below w.heap.size w w') : RwV w' r c := by
  induction h with
  | mk k n ns ks an cn ak ck us hk hn hi hln hlk hl ha hb' hu ih =>
    exact .mk k n ns ks an cn ak ck us hk hn hi hln hlk hl (ha.keep (fun _ hg => Nat.lt_of_lt_of_le hg hb.size) (fun g hg => hb.block g hg)) (hb'.keep (fun _ hg => Nat.lt_of_lt_of_le hg hb.size) (fun g hg => hb.block g hg)) ih
/-- Cells that are read at an address: a plain one. -/
theorem addr_plain {w : World} {a : Addr} {i : Nat} {v : Value} (h : w.cell? (a.add i) = some v) (hi : i = 0) : ∃ b o, a = ⟨b, o, none⟩ ∧ b < w.heap.size := by
  obtain ⟨b, o, spot⟩ := a
  subst hi
  have hspot : spot = none := by simpa [Addr.add] using World.cell?_spot h
  subst hspot
  exact ⟨b, o, rfl, World.block_lt_of_cell? (a := ⟨b, o, none⟩) _ (by simpa [Addr.add] using h)⟩
theorem add_addW (b o i j : Nat) : ((⟨b, o, none⟩ : Addr).add i).add j = ⟨b, o + i + j, none⟩ := by rw [Addr.add_lit, Addr.add_lit]
theorem rowV_of {w : World} {a : Addr} {k : Nat} {l : List (List Value)} (hk : 0 < k) (hl : ∀ x ∈ l, x.length = k) (h : ∀ i (hi : i < l.length) j v, (l[i])[j]? = some v → w.cell? ((a.add (i * k)).add j) = some v) : RowV w (Any w) (some a) k l := by
  by_cases h0 : l = []
  · exact .inl h0
  · have hp : 0 < l.length := List.length_pos_iff.2 h0
    have hlen := hl l[0] (List.getElem_mem hp)
    have h1 := h 0 hp 0 (l[0])[0] (List.getElem?_eq_getElem (by omega))
    obtain ⟨b, o, rfl, hb⟩ := addr_plain (i := 0) (by simpa [Addr.add] using h1) rfl
    exact .inr ⟨b, o, rfl, hb, fun i hi j v hv => by rw [← add_addW]; exact h i hi j v hv⟩
set_option maxRecDepth 100000 in
theorem open_raw {H : Type} {enc : TypeId × Value → H} {w : World} : ∀ (fuel : Nat) (cs : List Value) (x : DataW H × List MemPlace), DataW.trod enc Try.prog w 0 (fun _ => true) true fuel 33 cs = some x → ∃ r c, cs = R4.cells c ∧ RwV w r c := by
  intro fuel
  induction fuel using Nat.strongRecOn with
  | _ fuel ih =>
    intro cs x h
    obtain ⟨xs, n, rfl, _, hlen, hxl, hx⟩ := DataW.trod_struct Try.underlying33 h
    have hcR : Try.prog.cellsOf 33 = 4 := by kernel_rfl
    have hcI : Try.prog.cellsOf 3 = 1 := by kernel_rfl
    have hcN : Try.prog.cellsOf 30 = 1 := by kernel_rfl
    have hcK : Try.prog.cellsOf 31 = 1 := by kernel_rfl
    rw [hcR] at hlen
    obtain ⟨c0, c1, c2, c3, rfl⟩ : ∃ c0 c1 c2 c3, cs = [c0, c1, c2, c3] := match cs, hlen with | [a, b, c, d], _ => ⟨a, b, c, d, rfl⟩
    have hxl : xs.length = 4 := hxl
    have e0 := hx 0 _ rfl
    have e1 := hx 1 _ rfl
    have e2 := hx 2 _ rfl
    have e3 := hx 3 _ rfl
    rw [List.getElem?_eq_getElem (by omega)] at e0 e1 e2 e3
    simp only [List.getElem_toArray, List.getElem_cons_zero, List.getElem_cons_succ, hcI, hcN, hcK, List.drop_zero, List.drop_succ_cons, List.take_succ_cons, List.take_zero] at e0 e1 e2 e3
    obtain ⟨k, q0, _, hk⟩ := DataW.trod_int Try.underlying3 e0
    obtain ⟨m, q1, _, hm⟩ := DataW.trod_int Try.underlying3 e1
    cases q0
    cases q1
    have hnames : ∃ an ln cn ns, c2 = .slice an ln cn ∧ ln = List.length ns ∧ ns.length ≤ maxLen ∧ (∀ i ∈ ns, I64 i) ∧ RowV w (Any w) an 1 (ns.map fun i => [Value.int .i64 i]) := by
      rcases open_ints Try.underlying30 Try.underlying3 hcI e2 with ⟨hcs, _⟩ | ⟨a, l, c, zs, hcs, _, hl, hm, hz, _, hcell, hwz⟩
      · cases hcs
        exact ⟨none, 0, 0, [], rfl, rfl, by decide, (fun i h => by cases h), .inl rfl⟩
      · cases hcs
        have hz : zs.length = c := hz
        refine ⟨some a, l, c, zs.take l, rfl, by rw [List.length_take]; omega, by rw [List.length_take]; omega, fun i h => i64_of (hwz i (List.mem_of_mem_take h)), rowV_of (by decide) (fun x hx => by obtain ⟨y, _, rfl⟩ := List.mem_map.1 hx; rfl) (fun i hi j v hv => ?_)⟩
        rw [List.length_map, List.length_take] at hi
        rw [List.getElem_map, List.getElem_take] at hv
        have hj : j = 0 := by
          have := (List.getElem?_eq_some_iff.1 hv).1
          simpa using this
        subst hj
        have hv : some (Value.int .i64 zs[i]) = some v := hv
        cases hv
        rw [Addr.add_zero', Nat.mul_one, hcell i (by omega)]
        simp [List.getD, List.getElem?_eq_getElem (show i < zs.length by omega)]
    have hkids : ∃ ak lk ck, ∃ ks : List Rw, ∃ us : List R4, c3 = .slice ak lk ck ∧ lk = ks.length ∧ ks.length ≤ maxLen ∧ us.length = ks.length ∧ RowV w (Any w) ak 4 (us.map R4.cells) ∧ ∀ i (h : i < ks.length) (h' : i < us.length), RwV w ks[i] us[i] := by
      rcases DataW.trod_slice Try.underlying31 e3 with ⟨hcs, _⟩ | ⟨a, l, c, elems, rest, m', hm', hcs, _, _, hl, hmx, hel, hx3, _⟩
      · cases hcs
        exact ⟨none, 0, 0, [], [], rfl, rfl, by decide, rfl, .inl rfl, fun i h => by cases h⟩
      · cases hcs
        have each : ∀ i, i < l → ∃ r : Rw, ∃ c : R4, RwV w r c ∧ ∀ j v, c.cells[j]? = some v → w.cell? ((a.add (i * 4)).add j) = some v := fun i hi => by
          have h1 := hx3 i hi
          rw [hcR, List.getElem?_eq_getElem (by omega)] at h1
          obtain ⟨cl, h2, h3⟩ := Option.bind_eq_some_iff.1 h1
          obtain ⟨r, cc, rfl, hr⟩ := ih m' (by omega) cl _ h3
          obtain ⟨_, _, h4⟩ := World.cells?_some h2
          refine ⟨r, cc, hr, fun j v hv => ?_⟩
          have hj : j < 4 := (List.getElem?_eq_some_iff.1 hv).1
          rw [h4 j hj]; exact hv
        obtain ⟨f, hf⟩ : ∃ f : Nat → Rw × R4, ∀ i, i < l → RwV w (f i).1 (f i).2 ∧ ∀ j v, (f i).2.cells[j]? = some v → w.cell? ((a.add (i * 4)).add j) = some v :=
          ⟨fun i => if h : i < l then ((each i h).choose, (each i h).choose_spec.choose) else default, fun i hi => by simp only [dif_pos hi]; exact (each i hi).choose_spec.choose_spec⟩
        refine ⟨some a, l, c, (List.range l).map fun i => (f i).1, (List.range l).map fun i => (f i).2, rfl, by simp, by simp; omega, by simp, rowV_of (by decide) (fun x hx => by obtain ⟨y, _, rfl⟩ := List.mem_map.1 hx; rfl) (fun i hi j v hv => ?_), fun i h1 h2 => ?_⟩
        · simp only [List.length_map, List.length_range] at hi
          simp only [List.getElem_map, List.getElem_range] at hv
          exact (hf i hi).2 j v hv
        · simp only [List.length_map, List.length_range] at h1
          simp only [List.getElem_map, List.getElem_range]
          exact (hf i h1).1
    obtain ⟨an, ln, cn, ns, rfl, rfl, hnl, hni, hnr⟩ := hnames
    obtain ⟨ak, lk, ck, ks, us, rfl, rfl, hkl, hul, hkr, hku⟩ := hkids
    exact ⟨.mk k m ns ks, ⟨k, m, an, ns.length, cn, ak, ks.length, ck⟩, rfl, .mk k m ns ks an cn ak ck us (i64_of hk) (i64_of hm) hni hnl hkl hul hnr hkr hku⟩
end Sp
end Go.Proofs.Ytmhihnpimanhfaa
