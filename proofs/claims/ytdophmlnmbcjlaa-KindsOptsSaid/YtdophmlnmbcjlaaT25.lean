/- put: pieces of rows; its last statement: two rows, two appends each. Written by gen_wput.py. -/
import Derived.Test.YtdophmlnmbcjlaaT24
namespace Go.Proofs.Ytdophmlnmbcjlaa
open Go.RowKit
namespace Sp
open Sc
/-- The blocks that are there since b. -/
abbrev New (b : Nat) (w : World) (g : Nat) : Prop := b ≤ g ∧ g < w.heap.size
theorem RowV.newAny {b : Nat} {w : World} {a : Option Addr} {sz : Nat} {l : List (List Value)} (h : RowV w (New b w) a sz l) : RowV w (Any w) a sz l := h.keep (fun _ h => h.2) (fun _ _ => rfl)
theorem TzV.growN {b : Nat} {w w' : World} {t : Tz} {c : C4} (h : TzV w (New b w) t c) (hb : Below w.heap.size w w') : TzV w' (New b w') t c :=
  h.keep (fun _ hg => ⟨hg.1, Nat.lt_of_lt_of_le hg.2 hb.size⟩) (fun g hg => hb.block g hg.2)
theorem RowV.at {w W : World} {a : Option Addr} {sz : Nat} {l : List (List Value)} (h : RowV w (Any w) a sz l) (hb : Below w.heap.size w W) : RowV W (Any w) a sz l := h.keep (fun _ h => h) (fun g hg => hb.block g hg)
theorem RowV.front {w : World} {S : Nat → Prop} {a : Option Addr} {sz : Nat} {l : List (List Value)} (h : RowV w S a sz l) (hs : 0 < sz) (hl : ∀ x ∈ l, x.length = sz) (j c : Nat) (hj : j ≤ l.length) : SrcV w (.slice a j c) j (l.take j).flatten := by
  by_cases h0 : l = []
  · subst h0
    obtain rfl : j = 0 := by simpa using hj
    cases a with
    | none => exact .inl ⟨c, rfl, rfl, rfl⟩
    | some ad => exact .inr ⟨ad, c, rfl, fun j u hu => by simp at hu⟩
  · rcases h with h | ⟨g, o, rfl, hg, hc⟩
    · exact absurd h h0
    · have := RowV.piece (.inr ⟨g, o, rfl, hg, hc⟩ : RowV w S (some ⟨g, o, none⟩) sz l) hs hl 0 j c
      simpa using this
theorem RowV.back {w : World} {S : Nat → Prop} {a : Option Addr} {sz : Nat} {l : List (List Value)} (h : RowV w S a sz l) (hs : 0 < sz) (hl : ∀ x ∈ l, x.length = sz) (j c : Nat) (hj : j ≤ l.length) (hc : l.length ≤ c) : SrcV w (.slice (if c = j then a else a.map (·.add (j * sz))) (l.length - j) (c - j)) (l.length - j) (l.drop j).flatten := by
  by_cases h0 : l.length - j = 0
  · have e : l.drop j = [] := List.drop_of_length_le (by omega)
    rw [h0, e]
    generalize (if c = j then a else a.map (·.add (j * sz))) = a'
    cases a' with
    | none => exact .inl ⟨_, rfl, rfl, rfl⟩
    | some ad => exact .inr ⟨ad, _, rfl, fun j u hu => by simp at hu⟩
  · rw [if_neg (by omega)]
    rcases h with h | ⟨g, o, rfl, hg, hcl⟩
    · rw [h] at h0; simp at h0
    · have := RowV.piece (.inr ⟨g, o, rfl, hg, hcl⟩ : RowV w S (some ⟨g, o, none⟩) sz l) hs hl j (l.length - j) (c - j)
      rw [List.take_of_length_le (by simp)] at this
      simpa [Addr.add_lit] using this
theorem own_some {b n c g : Nat} (e : (Value.slice (some ⟨b, 0, none⟩) n c).ownBlock = some g) : b = g := by simpa [Value.ownBlock] using e
theorem Below.of_allocZ {B : Nat} (w : World) (o : Obj) (h : B ≤ w.heap.size) : Below B w (w.alloc o) := (Below.refl B w).alloc h o
def nmF (ns : List (List UInt8)) : List Value := (ns.map fun n => [str n]).flatten
def kdF (us : List C4) : List Value := (us.map C4.cells).flatten
theorem nmF_take (ns : List (List UInt8)) (j : Nat) : ((ns.map fun n => [str n]).take j).flatten = nmF (ns.take j) := by rw [nmF, List.map_take]
theorem nmF_drop (ns : List (List UInt8)) (j : Nat) : ((ns.map fun n => [str n]).drop j).flatten = nmF (ns.drop j) := by rw [nmF, List.map_drop]
theorem kdF_take (us : List C4) (j : Nat) : ((us.map C4.cells).take j).flatten = kdF (us.take j) := by rw [kdF, List.map_take]
theorem kdF_drop (us : List C4) (j : Nat) : ((us.map C4.cells).drop j).flatten = kdF (us.drop j) := by rw [kdF, List.map_drop]
theorem nmF_len (ns : List (List UInt8)) : (nmF ns).length = ns.length * 1 := by
  unfold nmF
  induction ns with
  | nil => rfl
  | cons a l ih => simp only [List.map_cons, List.flatten_cons, List.length_append, ih, List.length_cons]; simp; omega
theorem kdF_len (us : List C4) : (kdF us).length = us.length * 4 := by
  unfold kdF
  induction us with
  | nil => rfl
  | cons a l ih => simp only [List.map_cons, List.flatten_cons, List.length_append, ih, List.length_cons]; simp [C4.cells]; omega
theorem nmF_one (ns : List (List UInt8)) : ∀ u ∈ nmF ns, u.oneCell' = true := fun u hu => by
  obtain ⟨x, hx, hu⟩ := List.mem_flatten.1 hu
  obtain ⟨y, _, rfl⟩ := List.mem_map.1 hx
  simp at hu; subst hu; rfl
theorem kdF_one (us : List C4) : ∀ u ∈ kdF us, u.oneCell' = true := fun u hu => by
  obtain ⟨x, hx, hu⟩ := List.mem_flatten.1 hu
  obtain ⟨y, _, rfl⟩ := List.mem_map.1 hx
  exact C4.one y u hu
theorem apart_new {x y : Value} {b m n c : Nat} (hx : ∀ g, x.ownBlock = some g → g < b) (hf : ∀ k, y.ownBlock = some k → (Value.slice (some ⟨b, 0, none⟩) n c).ownBlock = some k ∨ m ≤ k) (hm : b ≤ m) : ApartV x y := fun g e1 e2 => by
  have := hx g e1
  rcases hf g e2 with h | h
  · have := own_some h; omega
  · omega
theorem put_src {w wr w3 : World} {B : Nat} {a : Option Addr} {us : List C4} (h : RowV w (Any w) a 4 (us.map C4.cells)) (hb : Below w.heap.size w wr) (h3 : Below B wr w3) (hB : w.heap.size ≤ B) (hz : w.heap.size ≤ w3.heap.size) (o : Obj) (j c : Nat) (hj : j ≤ us.length) : SrcV (w3.alloc o) (.slice a j c) j (kdF (us.take j)) := by
  rw [← kdF_take]
  exact (h.at ((hb.trans (h3.mono hB)).alloc hz o)).front (by decide) (cells4_len us) j c (by rw [List.length_map]; exact hj)
def CapOk (c : C4) : Prop := c.ln ≤ c.cn ∧ c.lk ≤ c.ck
/-- What a call of put leaves. -/
def PutP (b : Nat) (t : Tz) (w : World) (e : Ending) (w' : World) : Prop := ∃ c : C4, e = .returned (.agg #[.int .i64 c.k, .string c.n, .slice c.an c.ln c.cn, .slice c.ak c.lk c.ck]) ∧ TzV w' (New b w') t c ∧ CapOk c ∧ Below w.heap.size w w'
/-- One row: before its appends, behind the first, behind both; what the first one appends lies in a block of its own. -/
structure Sd (W0 : World) (base : Nat) (e : TypeId) (sz : Nat) (x : Value) (n : Nat) (xs n1 n2 : List Value) (m2 : Nat) (lb l1 l2 : Bool) (tv a1 a2 : Value) (v : World) : Prop where
  r0 : l1 = false → v.ownsRow base e sz x n xs
  r1 : l1 = true → l2 = false → v.ownsRow base e sz a1 (n + 1) (xs ++ n1)
  r2 : l2 = true → v.ownsRow base e sz a2 (n + 1 + m2) ((xs ++ n1) ++ n2)
  tmp : lb = true → l1 = false → ∃ g, tv = .slice (some ⟨g, 0, none⟩) 1 1 ∧ W0.heap.size ≤ g ∧ g < v.heap.size ∧ v.heap[g]? = some (.cells n1.toArray e (0, 0))
  imp : l2 = true → l1 = true
/-- Where the row lies now. -/
def cur2 (x a1 a2 : Value) (l1 l2 : Bool) : Value := if l2 then a2 else if l1 then a1 else x
section
variable {W0 v v' : World} {base : Nat} {e : TypeId} {sz : Nat} {x : Value} {n : Nat} {xs n1 n2 : List Value} {m2 : Nat} {lb l1 l2 : Bool} {tv a1 a2 : Value}
theorem Sd.start (n1 n2 : List Value) (m2 : Nat) (h : v.ownsRow base e sz x n xs) (tv a1 a2 : Value) : Sd v base e sz x n xs n1 n2 m2 false false false tv a1 a2 v :=
  ⟨fun _ => h, (fun h => by cases h), (fun h => by cases h), (fun h => by cases h), (fun h => by cases h)⟩
theorem Sd.cur_lt (h : Sd W0 base e sz x n xs n1 n2 m2 lb l1 l2 tv a1 a2 v) : ∀ g, (cur2 x a1 a2 l1 l2).ownBlock = some g → base ≤ g ∧ g < v.heap.size := by
  intro g hg
  cases l2 with
  | true => exact (h.r2 rfl).lt g hg
  | false => cases l1 with
    | true => exact (h.r1 rfl rfl).lt g hg
    | false => exact (h.r0 rfl).lt g hg
theorem Sd.keep {r : Option Nat} (h : Sd W0 base e sz x n xs n1 n2 m2 lb l1 l2 tv a1 a2 v) (hg : v.grownBy v' r) (hr : ∀ g, r = some g → (cur2 x a1 a2 l1 l2).ownBlock ≠ some g ∧ (lb = true → l1 = false → tv.ownBlock ≠ some g)) : Sd W0 base e sz x n xs n1 n2 m2 lb l1 l2 tv a1 a2 v' := by
  have hne : ∀ y : Value, (∀ g, r = some g → y.ownBlock ≠ some g) → y.ownBlock = none ∨ y.ownBlock ≠ r := fun y hy => by
    cases hy2 : y.ownBlock with
    | none => exact .inl rfl
    | some g => exact .inr fun e => hy g e.symm hy2
  refine ⟨fun hl => (h.r0 hl).kept hg (hne _ fun g e => ?_), fun hl hl2 => (h.r1 hl hl2).kept hg (hne _ fun g e => ?_), fun hl => (h.r2 hl).kept hg (hne _ fun g e => ?_), fun h1 h2 => ?_, h.imp⟩
  · have := (hr g e).1
    have h2 : l2 = false := by cases h3 : l2 with
      | false => rfl
      | true => have := h.imp h3; rw [hl] at this; cases this
    rw [hl, h2] at this
    exact this
  · have := (hr g e).1
    rw [hl, hl2] at this
    exact this
  · have := (hr g e).1
    rw [hl] at this
    exact this
  · obtain ⟨g, e1, e2, e3, e4⟩ := h.tmp h1 h2
    exact ⟨g, e1, e2, Nat.lt_of_lt_of_le e3 hg.size, (hg.block g e3 (fun e => (hr g e.symm).2 h1 h2 (by rw [e1]; rfl))).trans e4⟩
theorem Sd.lay (h : Sd W0 base e sz x n xs n1 n2 m2 false false false tv a1 a2 v) (hs : W0.heap.size ≤ v.heap.size) : Sd W0 base e sz x n xs n1 n2 m2 true false false (.slice (some ⟨v.heap.size, 0, none⟩) 1 1) a1 a2 (v.alloc (.cells n1.toArray e)) :=
  ⟨fun _ => (h.r0 rfl).alloc _, (fun h => by cases h), (fun h => by cases h), fun _ _ => ⟨v.heap.size, rfl, hs, by simp, heap_alloc_new _ _⟩, (fun h => by cases h)⟩
theorem Sd.app1 {y : Value} (hown : v'.ownsRow base e sz y (n + 1) (xs ++ n1)) : Sd W0 base e sz x n xs n1 n2 m2 true true false tv y a2 v' :=
  ⟨(fun h => by cases h), fun _ _ => hown, (fun h => by cases h), (fun _ h => by cases h), (fun h => by cases h)⟩
theorem Sd.app2 {y : Value} (hown : v'.ownsRow base e sz y (n + 1 + m2) ((xs ++ n1) ++ n2)) : Sd W0 base e sz x n xs n1 n2 m2 lb true true tv a1 y v' :=
  ⟨(fun h => by cases h), (fun _ h => by cases h), fun _ => hown, (fun _ h => by cases h), fun _ => rfl⟩
end
/-- What the operations of the statement yield. -/
structure PV (E j : Nat) (xn xk AN AK A1 A2 : Value) (n : List UInt8) (c : C4) (vals : Nat → Value) : Prop where
  v0 : vals 0 = xn
  v1 : vals 1 = .string ⟨n.toArray⟩
  v4 : vals 4 = .pointer (some ⟨E, 2, none⟩)
  v5 : vals 5 = AN
  v6 : vals 6 = .int .i64 j
  v7 : vals 7 = A1
  v9 : vals 9 = xk
  v10 : vals 10 = .agg #[.int .i64 c.k, .string c.n, .slice c.an c.ln c.cn, .slice c.ak c.lk c.ck]
  v13 : vals 13 = .pointer (some ⟨E, 3, none⟩)
  v14 : vals 14 = AK
  v15 : vals 15 = .int .i64 j
  v16 : vals 16 = A2
  v18 : vals 18 = .pointer (some ⟨E, 2, none⟩)
  v20 : vals 20 = .pointer (some ⟨E, 3, none⟩)
/-- Memory while the statement runs. -/
structure PM (W0 w0 : World) (E base j : Nat) (k : Int) (nm : List UInt8) (xn xk AN AK : Value) (n : List UInt8) (c : C4) (xs zs n2 k2 : List Value) (m1 m2 : Nat) (vals : Nat → Value) (l2 l3 l8 l11 l12 l17 l19 l21 : Bool) (v : World) : Prop where
  sn : Sd W0 base 9 1 xn j xs [.string ⟨n.toArray⟩] n2 m1 l2 l3 l8 (vals 2) (vals 3) (vals 8) v
  sk : Sd W0 base 30 4 xk j zs c.cells k2 m2 l11 l12 l17 (vals 11) (vals 12) (vals 17) v
  ap : ApartV (cur2 xn (vals 3) (vals 8) l3 l8) (cur2 xk (vals 12) (vals 17) l12 l17)
  apt : l11 = true → l12 = false → ApartV (cur2 xn (vals 3) (vals 8) l3 l8) (vals 11)
  tat : v.heap[E]? = some (.cells #[.int .i64 k, .string ⟨nm.toArray⟩, if l19 then vals 8 else AN, if l21 then vals 17 else AK] 30 (0, 0))
  only : Only E w0 v
  size : W0.heap.size ≤ v.heap.size
structure PJ (W0 w0 : World) (E base j : Nat) (k : Int) (nm : List UInt8) (xn xk AN AK A1 A2 : Value) (n : List UInt8) (c : C4) (xs zs n2 k2 : List Value) (m1 m2 : Nat) (ops : Array Oper) (a0 : Act) (listed : Array Bool) (b : Act) (v : World) : Prop where
  size : listed.size = ops.size
  closed : Closed ops listed
  rest : ∃ vals : Nat → Value, Fr ops a0 vals listed b ∧ PV E j xn xk AN AK A1 A2 n c vals ∧ PM W0 w0 E base j k nm xn xk AN AK n c xs zs n2 k2 m1 m2 vals (listed.getD 2 false) (listed.getD 3 false) (listed.getD 8 false) (listed.getD 11 false) (listed.getD 12 false) (listed.getD 17 false) (listed.getD 19 false) (listed.getD 21 false) v
theorem PJ.quiet {W0 w0 : World} {E base j : Nat} {k : Int} {nm : List UInt8} {xn xk AN AK A1 A2 : Value} {n : List UInt8} {c : C4} {xs zs n2 k2 : List Value} {m1 m2 : Nat} {ops : Array Oper} {a0 b : Act} {listed : Array Bool} {v : World} {i : Nat} {o : Oper} {vals : Nat → Value} {Q : Exit → Act → World → Prop} (hz : listed.size = ops.size) (hC : Closed ops listed) (hi : i ∈ Region.ready .any ops listed) (hF : Fr ops a0 vals listed b) (hV : PV E j xn xk AN AK A1 A2 n c vals)
    (hM : PM W0 w0 E base j k nm xn xk AN AK n c xs zs n2 k2 m1 m2 vals (listed.getD 2 false) (listed.getD 3 false) (listed.getD 8 false) (listed.getD 11 false) (listed.getD 12 false) (listed.getD 17 false) (listed.getD 19 false) (listed.getD 21 false) v)
    (hs : Slots ops a0.tmps.size) (ho : ops[i]? = some o) (hg : o.guard = none) (h9 : i ≠ 2 ∧ i ≠ 3 ∧ i ≠ 8 ∧ i ≠ 11 ∧ i ≠ 12 ∧ i ≠ 17 ∧ i ≠ 19 ∧ i ≠ 21) (hr : (execOp b.eval o).run Try.prog v = .ok (.value (vals i)) v) :
    wpOp Try.prog ops Q i (fun b' v' => PJ W0 w0 E base j k nm xn xk AN AK A1 A2 n c xs zs n2 k2 m1 m2 ops a0 (listed.setIfInBounds i true) b' v') b v := by
  refine wpOp_run ho hg hr ⟨by simp [hz], hC.put hi, vals, hF.put hs hz ho, hV, ?_⟩
  simp only [getD_setF]
  simpa [h9.1, h9.2.1, h9.2.2.1, h9.2.2.2.1, h9.2.2.2.2.1, h9.2.2.2.2.2.1, h9.2.2.2.2.2.2.1, h9.2.2.2.2.2.2.2] using hM
theorem zip_vals {P : Tz → C4 → Prop} {ks : List Tz} {us : List C4} : (∀ i (h : i < ks.length) (h' : i < us.length), P ks[i] us[i]) ↔ ∀ p ∈ ks.zip us, P p.1 p.2 := by
  constructor
  · intro h p hp
    obtain ⟨i, hi, rfl⟩ := List.mem_iff_getElem.1 hp
    rw [List.getElem_zip]
    exact h i _ _
  · intro h i h1 h2
    have := h _ (List.getElem_mem (l := ks.zip us) (n := i) (by rw [List.length_zip]; omega))
    rwa [List.getElem_zip] at this
theorem ins_vals {P : Tz → C4 → Prop} {ks : List Tz} {us : List C4} {x : Tz} {c : C4} (hl : us.length = ks.length) (h : ∀ i (h : i < ks.length) (h' : i < us.length), P ks[i] us[i]) (hx : P x c) (j : Nat) :
    ∀ i (h : i < (ks.take j ++ [x] ++ ks.drop j).length) (h' : i < (us.take j ++ [c] ++ us.drop j).length), P (ks.take j ++ [x] ++ ks.drop j)[i] (us.take j ++ [c] ++ us.drop j)[i] := by
  rw [zip_vals] at h ⊢
  intro p hp
  rw [List.zip_append (by simp [hl]), List.zip_append (by simp [hl])] at hp
  rw [List.mem_append, List.mem_append] at hp
  rcases hp with (hp | hp) | hp
  · rw [List.zip, ← List.take_zipWith] at hp
    exact h p (List.mem_of_mem_take hp)
  · simp at hp
    subst hp
    exact hx
  · rw [List.zip, ← List.drop_zipWith] at hp
    exact h p (List.mem_of_mem_drop hp)
theorem own_cap {w : World} {base sz N c m : Nat} {e : TypeId} {a : Option Addr} {xs : List Value} (h : w.ownsRow base e sz (.slice a N c) m xs) : N ≤ c := by
  rcases h.2 with ⟨h, _⟩ | ⟨g, cap, cur, h, _, _, hnc, _⟩
  · cases h; exact Nat.le_refl _
  · cases h; exact hnc
theorem put_made {W : World} {b base N M vc wc : Nat} {va wa : Option Addr} {k : Int} {nm : List UInt8} {ns : List (List UInt8)} {ks : List Tz} {us : List C4} (hN : W.ownsRow base 9 1 (.slice va N vc) N (nmF ns)) (hn : N = ns.length) (hK : W.ownsRow base 30 4 (.slice wa M wc) M (kdF us)) (hm : M = ks.length) (hu : us.length = ks.length) (hb : b ≤ base)
    (hv : ∀ i (h : i < ks.length) (h' : i < us.length), TzV W (New b W) ks[i] us[i]) : TzV W (New b W) (.mk k nm ns ks) ⟨k, ⟨nm.toArray⟩, va, N, vc, wa, M, wc⟩ ∧ CapOk ⟨k, ⟨nm.toArray⟩, va, N, vc, wa, M, wc⟩ := by
  refine ⟨?_, own_cap hN, own_cap hK⟩
  obtain ⟨a1, c1, e1, h1⟩ := RowV.own (S := New b W) (l := ns.map fun n => [str n]) hN (str1_len ns) (by rw [List.length_map]; exact hn) (fun g hg => ⟨Nat.le_trans hb (hN.lt g hg).1, (hN.lt g hg).2⟩)
  obtain ⟨a2, c2, e2, h2⟩ := RowV.own (S := New b W) (l := us.map C4.cells) hK (cells4_len us) (by rw [List.length_map, hu]; exact hm) (fun g hg => ⟨Nat.le_trans hb (hK.lt g hg).1, (hK.lt g hg).2⟩)
  cases e1; cases e2
  subst hn hm
  exact .mk k nm ns ks va vc wa wc us hu h1 h2 hv
theorem nmF_ins (ns : List (List UInt8)) (n : List UInt8) (j : Nat) : (nmF (ns.take j) ++ [.string ⟨n.toArray⟩]) ++ nmF (ns.drop j) = nmF (ns.take j ++ [n] ++ ns.drop j) := by simp [nmF, str]
theorem kdF_ins (us : List C4) (c : C4) (j : Nat) : (kdF (us.take j) ++ c.cells) ++ kdF (us.drop j) = kdF (us.take j ++ [c] ++ us.drop j) := by simp [kdF]
end Sp
end Go.Proofs.Ytdophmlnmbcjlaa
