/- A row of names without one: two appends of slices in one statement whose order is open: memory while it runs. -/
import Derived.Test.YteooafgdmpbjeabS51
import Derived.Test.YteooafgdmpbjeabS24
import Derived.Test.YteooafgdmpbjeabS50
namespace Go.Proofs.Yteooafgdmpbjeab
open Go.RowKit
namespace Sp
open Sc
/-- What the statement makes: the empty row, the row with the names before, the row with those behind too. -/
structure Sx where
  b0 : Value
  a1 : Value
  a2 : Value
structure SfM (W0 : World) (yb : Nat) (kd : Int) (k c : Nat) (ns : List Value) (l0 l5 l11 l13 : Bool) (x : Sx) (v : World) : Prop where
  keeps : Keeps (fun g => g = yb) W0 v
  e0 : l0 = true → l5 = false → v.ownsRow W0.heap.size 9 1 x.b0 0 []
  r1 : l5 = true → l11 = false → v.ownsRow W0.heap.size 9 1 x.a1 k (ns.take k)
  r2 : l11 = true → v.ownsRow W0.heap.size 9 1 x.a2 (c - 1) (ns.take k ++ ns.drop (k + 1))
  y : v.heap[yb]? = some (.cells #[.int .i64 kd, .string ⟨#[]⟩, if l13 then x.a2 else .slice none 0 0, .slice none 0 0] 31 (0, 0))
  ylt : yb < W0.heap.size
section
variable {W0 : World} {yb : Nat} {kd : Int} {k c : Nat} {ns : List Value} {x : Sx} {v w3 : World}
theorem Keeps.grownL {O : Nat → Prop} (h : Keeps O W0 v) {r : Option Nat} (hg : v.grownBy w3 r) (hr : ∀ g, r = some g → W0.heap.size ≤ g) : Keeps O W0 w3 :=
  ⟨hg.os.trans h.os, hg.tape.trans h.tape, hg.output.trans h.output, Nat.le_trans h.size hg.size, fun g hl hn => (hg.block g (Nat.lt_of_lt_of_le hl h.size) (fun e => by have := hr g e.symm; omega)).trans (h.block g hl hn)⟩
theorem SfM.start (hy : W0.heap[yb]? = some (.cells #[.int .i64 kd, .string ⟨#[]⟩, .slice none 0 0, .slice none 0 0] 31 (0, 0))) (x : Sx) : SfM W0 yb kd k c ns false false false false x W0 :=
  ⟨Keeps.refl _ _, (fun h => by cases h), (fun h => by cases h), (fun h => by cases h), hy, (Array.getElem?_eq_some_iff.1 hy).1⟩
theorem SfM.mk0 (h : SfM W0 yb kd k c ns false false false false x v) : SfM W0 yb kd k c ns true false false false ⟨.slice (some ⟨v.heap.size, 0, none⟩) 0 0, x.a1, x.a2⟩ (v.alloc (.cells #[] 9)) :=
  ⟨h.keeps.alloc _, fun _ _ => ⟨rfl, .inr ⟨v.heap.size, 0, #[], rfl, h.keeps.size, heap_alloc_new _ _, Nat.le_refl _, by unfold maxLen; omega, rfl, rfl⟩⟩, (fun h => by cases h), (fun h => by cases h), blk_allocZ h.y _, h.ylt⟩
theorem SfM.app1 (h : SfM W0 yb kd k c ns true false false false x v) {y : Value} (hown : w3.ownsRow W0.heap.size 9 1 y (0 + k) ([] ++ ns.take k)) (hgr : v.grownBy w3 x.b0.ownBlock) : SfM W0 yb kd k c ns true true false false ⟨x.b0, y, x.a2⟩ w3 := by
  have ho := (h.e0 rfl rfl).lt
  rw [Nat.zero_add, List.nil_append] at hown
  have hs := h.keeps.size
  have hy := h.ylt
  exact ⟨h.keeps.grownL hgr (fun g e => (ho g e).1), (fun _ h => by cases h), fun _ _ => hown, (fun h => by cases h), (hgr.block yb (by omega) (fun e => by have := (ho yb e.symm).1; omega)).trans h.y, hy⟩
theorem SfM.app2 (h : SfM W0 yb kd k c ns true true false false x v) (hk : k < c) {y : Value} (hown : w3.ownsRow W0.heap.size 9 1 y (k + (c - (k + 1))) (ns.take k ++ ns.drop (k + 1))) (hgr : v.grownBy w3 x.a1.ownBlock) : SfM W0 yb kd k c ns true true true false ⟨x.b0, x.a1, y⟩ w3 := by
  have ho := (h.r1 rfl rfl).lt
  rw [show k + (c - (k + 1)) = c - 1 by omega] at hown
  have hs := h.keeps.size
  have hy := h.ylt
  exact ⟨h.keeps.grownL hgr (fun g e => (ho g e).1), (fun _ h => by cases h), (fun _ h => by cases h), fun _ => hown, (hgr.block yb (by omega) (fun e => by have := (ho yb e.symm).1; omega)).trans h.y, hy⟩
theorem SfM.put (h : SfM W0 yb kd k c ns true true true false x v) : SfM W0 yb kd k c ns true true true true x (v.setCell ⟨yb, 2, none⟩ x.a2) := by
  have ho := (h.r2 rfl).lt
  have hy := h.ylt
  have gr : v.grownBy (v.setCell ⟨yb, 2, none⟩ x.a2) (some yb) := (Only.refl yb v).setCell 2 _
  have tt := h.y
  rw [if_neg (by decide)] at tt
  refine ⟨h.keeps.setCell 2 _ rfl, (fun _ h => by cases h), (fun _ h => by cases h), fun _ => (h.r2 rfl).kept gr ?_, set_fourA tt _, hy⟩
  cases hb : x.a2.ownBlock with
  | none => exact .inl rfl
  | some g => exact .inr fun e => by cases e; have := (ho yb hb).1; omega
end
end Sp
end Go.Proofs.Yteooafgdmpbjeab
namespace Go.Proofs.Yteooafgdmpbjeab
open Go.RowKit
namespace Sp
open Sc
def cB : C4 := ⟨1, ⟨#[]⟩, none, 0, 0, none, 0, 0⟩
def wdN (l : List Nat) : List Value := l.map fun k => .string ⟨#[letB k]⟩
def wdK (l : List Nat) : List Value := l.flatMap fun _ => cB.cells
theorem wdN_flat (l : List Nat) : wdN l = (l.map fun k => [Value.string ⟨#[letB k]⟩]).flatten := by
  unfold wdN
  induction l with
  | nil => rfl
  | cons a r ih => simp [ih]
theorem wdK_flat (l : List Nat) : wdK l = (l.map fun _ => cB.cells).flatten := by
  unfold wdK; rw [List.flatMap_def]
theorem wdN_erase (l : List Nat) (kk : Nat) : (wdN l).take kk ++ (wdN l).drop (kk + 1) = wdN (l.eraseIdx kk) := by
  unfold wdN
  rw [List.eraseIdx_eq_take_drop_succ, List.map_append, List.map_take, List.map_drop]
theorem wid_tzv (q : Nat) (l : List Nat) {w : World} {S : Nat → Prop} {an ak : Option Addr} (cn ck : Nat) {c : Nat} {kz : Int} (hkz : ((7 + q : Nat) : Int) = kz) (hl : l.length = c) (hn : RowV w S an 1 (l.map fun k => [.string ⟨#[letB k]⟩])) (hk : RowV w S ak 4 (l.map fun _ => cB.cells)) :
    TzV w S (widX q l) ⟨kz, ⟨#[]⟩, an, c, cn, ak, c, ck⟩ := by
  subst hkz hl
  have h := TzV.mk (w := w) (S := S) (7 + q : Nat) [] (l.map fun k => [UInt8.ofNat (97 + k)]) (l.map fun _ => zBl) an cn ak ck (l.map fun _ => cB) (by simp) (by rw [List.map_map]; exact hn) (by rw [List.map_map]; exact hk) (fun i h1 h2 => by simp only [List.getElem_map]; exact TzV.leaf w S 1 [])
  simp only [List.length_map] at h
  exact h
theorem RowV.tail {w : World} {S : Nat → Prop} {g k : Nat} {l : List (List Value)} (h : RowV w S (some ⟨g, 0, none⟩) k l) : RowV w S (some ⟨g, k, none⟩) k l.tail := by
  rcases h with h | ⟨g', o, ha, hg, hc⟩
  · subst h; exact .inl rfl
  · cases ha
    refine .inr ⟨g, k, rfl, hg, fun i hi j v hv => ?_⟩
    have hi' : i + 1 < l.length := by rw [List.length_tail] at hi; omega
    have e : l.tail[i] = l[i + 1] := by rw [List.getElem_tail]
    rw [e] at hv
    have := hc (i + 1) hi' j v hv
    rwa [show 0 + (i + 1) * k + j = k + i * k + j by rw [Nat.add_mul]; omega] at this
theorem own_rowS {w : World} {base k n cn : Nat} {e : TypeId} {an : Option Addr} {l : List (List Value)} (h : w.ownsRow base e k (.slice an n cn) n l.flatten) (hk : ∀ x ∈ l, x.length = k) (hn : n = l.length) : RowV w (fun g => base ≤ g ∧ g < w.heap.size) an k l := by
  obtain ⟨a, c, e, r⟩ := RowV.own h hk hn (S := fun g => base ≤ g ∧ g < w.heap.size) (fun g hg => h.lt g hg)
  cases e
  exact r
def WdS (tb yb : Nat) (W6 : World) (g : Nat) : Prop := tb + 1 ≤ g ∧ g ≠ yb ∧ g < W6.heap.size
theorem wid_vals {wr W6 W7 : World} {tb yb gn gk q c xc yc vc kk : Nat} {va : Option Addr} {l : List Nat} (hc : l.length = c) (hkc : kk < c)
    (hN : wr.ownsRow (tb + 1) 9 1 (.slice (some ⟨gn, 0, none⟩) c xc) c (wdN l)) (hK : wr.ownsRow (tb + 1) 31 4 (.slice (some ⟨gk, 0, none⟩) c yc) c (wdK l))
    (hyb : wr.heap.size = yb) (htb : tb < yb) (hk6 : ∀ g, g < yb → W6.heap[g]? = wr.heap[g]?) (hz6 : yb < W6.heap.size)
    (hR : W6.ownsRow (yb + 1) 9 1 (.slice va (c - 1) vc) (c - 1) (wdN (l.eraseIdx kk)))
    (hk7 : ∀ g, g < W6.heap.size → g ≠ yb → W7.heap[g]? = W6.heap[g]?) :
    TzV W7 (WdS tb yb W6) (widX q l) ⟨7 + (q : Int), ⟨#[]⟩, some ⟨gn, 0, none⟩, c, xc, some ⟨gk, 0, none⟩, c, yc⟩ ∧
      TzV W7 (WdS tb yb W6) (widX q (l.eraseIdx kk)) ⟨7 + (q : Int), ⟨#[]⟩, va, c - 1, vc, some ⟨gk, 4, none⟩, c - 1, yc - 1⟩ := by
  have hle : (l.eraseIdx kk).length = c - 1 := by rw [List.length_eraseIdx_of_lt (by omega), hc]
  have rN := own_rowS (l := l.map fun k => [Value.string ⟨#[letB k]⟩]) (by rw [← wdN_flat]; exact hN) (fun x hx => by obtain ⟨y, _, rfl⟩ := List.mem_map.1 hx; rfl) (by rw [List.length_map, hc])
  have rK := own_rowS (l := l.map fun _ => cB.cells) (by rw [← wdK_flat]; exact hK) (fun x hx => by obtain ⟨y, _, rfl⟩ := List.mem_map.1 hx; rfl) (by rw [List.length_map, hc])
  have rR := own_rowS (l := (l.eraseIdx kk).map fun k => [Value.string ⟨#[letB k]⟩]) (by rw [← wdN_flat]; exact hR) (fun x hx => by obtain ⟨y, _, rfl⟩ := List.mem_map.1 hx; rfl) (by rw [List.length_map, hle])
  have s1 : ∀ g, (tb + 1 ≤ g ∧ g < wr.heap.size) → WdS tb yb W6 g := fun g hg => ⟨hg.1, by omega, by omega⟩
  have s2 : ∀ g, (tb + 1 ≤ g ∧ g < wr.heap.size) → W7.heap[g]? = wr.heap[g]? := fun g hg => (hk7 g (by omega) (by omega)).trans (hk6 g (by omega))
  refine ⟨wid_tzv q l xc yc (by omega) hc (rN.keep s1 s2) (rK.keep s1 s2), wid_tzv q _ vc (yc - 1) (by omega) hle (rR.keep (fun g hg => ⟨by omega, by omega, hg.2⟩) (fun g hg => hk7 g hg.2 (by omega))) ?_⟩
  have := (rK.keep s1 s2).tail
  rwa [show (l.map fun _ => cB.cells).tail = (l.eraseIdx kk).map fun _ => cB.cells by rw [List.map_const', List.map_const', List.tail_replicate, hle, hc]] at this
/-- Add, of a type that lies beside the table; where the table has grown to. -/
theorem StV.adds2 {B : Nat} {w : World} {tb rb nb mb sb m : Nat} {ty nu : Value} {T : List Kz} {N : List NN} {G : List GN} {vs : List Value} (h : StV B w tb rb nb mb sb m ty nu T N G vs) (hB : B ≤ w.heap.size) {t : Tz} (hf : fitZ t = true) (hs : shortZ t = true) {S : Nat → Prop} {c : C4} (hV : TzV w S t c) (hS : ∀ g, S g → g < w.heap.size ∧ ¬ Own tb rb nb g)
    {i e : Nat} {T' : List Kz} (hq : addK (hasZ N) T t = (i, e, T')) :
    Calls Try.prog 11 #[.pointer (some ⟨tb, 0, none⟩), .agg #[.int .i64 c.k, .string c.n, .slice c.an c.ln c.cn, .slice c.ak c.lk c.ck]] w fun en w' => ∃ rb' nb' ty' nu', en = .returned (.tuple #[.int .i64 (i : Nat), .int .i64 (e : Nat)]) ∧ StV B w' tb rb' nb' mb sb m ty' nu' T' N G vs ∧ Below B w w' ∧ Keeps (Own tb rb nb) w w' ∧ ∀ g, Own tb rb' nb' g → Own tb rb nb g ∨ w.heap.size ≤ g := by
  have C := add_any t hf hs w tb rb nb mb sb m ty nu T N S c h.tab h.names hV hS
  rw [hq] at C
  refine C.mono ?_
  rintro en w' ⟨rb', nb', ty', nu', rfl, ha⟩
  obtain ⟨h1, h2⟩ := h.add ha hB
  exact ⟨rb', nb', ty', nu', rfl, h1, h2, ha.keeps, ha.grew.own⟩
end Sp
end Go.Proofs.Yteooafgdmpbjeab
