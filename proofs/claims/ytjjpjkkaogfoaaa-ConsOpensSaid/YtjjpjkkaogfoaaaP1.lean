/- put: a name and a type at their place; appends whose source is a piece of a row. -/
import Derived.Test.YtjjpjkkaogfoaaaWKid
import Derived.Test.YtjjpjkkaogfoaaaZManyP
namespace Go.Proofs.Ytjjpjkkaogfoaaa
open Go.RowKit
namespace Sp
open Sc

/-- Where a name belongs. -/
def posT (ns : List (List UInt8)) (n : List UInt8) : Nat := (ns.takeWhile fun x => Op.bytesLess x n).length
def putT (n : List UInt8) (x : Tz) : Tz → Tz
  | .mk k nm ns ks => if ns[posT ns n]? = some n then .mk k nm ns ks else .mk k nm (ns.take (posT ns n) ++ [n] ++ ns.drop (posT ns n)) (ks.take (posT ns n) ++ [x] ++ ks.drop (posT ns n))
theorem posT_le (ns : List (List UInt8)) (n : List UInt8) : posT ns n ≤ ns.length := (List.takeWhile_sublist _).length_le
theorem posT_is {n : List UInt8} : ∀ {ns : List (List UInt8)} {k : Nat}, k ≤ ns.length → (∀ i (h : i < ns.length), i < k → Op.bytesLess ns[i] n = true) → (∀ h : k < ns.length, Op.bytesLess ns[k] n = false) → posT ns n = k
  | [], k, h1, _, _ => by
    obtain rfl : k = 0 := by simpa using h1
    rfl
  | a :: ns, 0, _, _, h3 => by
    have := h3 (by simp)
    simp only [List.getElem_cons_zero] at this
    simp [posT, List.takeWhile, this]
  | a :: ns, k + 1, h1, h2, h3 => by
    have h0 := h2 0 (by simp) (by omega)
    simp only [List.getElem_cons_zero] at h0
    have ih := posT_is (ns := ns) (k := k) (by simpa using h1) (fun i h hk => by have := h2 (i + 1) (by simpa using h) (by omega); simpa using this) (fun h => by have := h3 (by simpa using h); simpa using this)
    simp only [posT, List.takeWhile, h0] at ih ⊢
    simp [ih]

/-! ### An append of a piece of a row -/
/-- What a slice yields to an append. -/
def SrcV (w : World) (sv : Value) (m : Nat) (news : List Value) : Prop :=
  (∃ c, sv = .slice none 0 c ∧ m = 0 ∧ news = []) ∨ ∃ ad c, sv = .slice (some ad) m c ∧ ∀ j u, news[j]? = some u → w.cell? (ad.add j) = some u
theorem append_noneC {P : Program} (w : World) (base : Nat) (t ty e : TypeId) (i : TypeInfo) (size c : Nat) (ht : P.underlying t = some (.slice e)) (hi : P.info? e = some i)
    (v : Value) (n : Nat) (xs : List Value) (hown : w.ownsRow base e size v n xs) : (Builtin.append_ #[t, t] ty #[v, .slice none 0 c]).run P w = .ok v w := by
  rcases hown.2 with ⟨rfl, rfl⟩ | ⟨g, cap, cur, rfl, _, _, hnc, _⟩
  · simp [Builtin.append_, run_underlying ht, sizeOf, typeInfo, hi, Builtin.lenOf, Builtin.firstCells]
  · simp [Builtin.append_, run_underlying ht, sizeOf, typeInfo, hi, Builtin.lenOf, Builtin.firstCells, hnc, storeCells]
theorem run_append_srcV {P : Program} (w : World) (base : Nat) (t ty e : TypeId) (i : TypeInfo) (z : Value) (size bytes : Nat) (ht : P.underlying t = some (.slice e)) (hi : P.info? e = some i) (hz : i.zero = some z)
    (hsize : i.size = size) (hby : i.bytes = bytes) (hzs : z.cells.size = size) (hsz : 0 < size)
    (v : Value) (n : Nat) (xs : List Value) (hown : w.ownsRow base e size v n xs)
    (sv : Value) (m : Nat) (news : List Value) (hl : news.length = m * size) (hnews : SrcV w sv m news) (h1 : ∀ u ∈ news, u.oneCell' = true)
    (h63 : n + m ≤ maxLen) (hbytes : (n + m) * bytes ≤ 140737488355328) (hbase : base ≤ w.heap.size) :
    ∃ v' w', (Builtin.append_ #[t, t] ty #[v, sv]).run P w = .ok v' w' ∧ w'.ownsRow base e size v' (n + m) (xs ++ news) ∧ w.grownBy w' v.ownBlock ∧
      ∀ k, v'.ownBlock = some k → v.ownBlock = some k ∨ w.heap.size ≤ k := by
  rcases hnews with ⟨c, rfl, rfl, rfl⟩ | ⟨ad, c, rfl, hc⟩
  · exact ⟨v, w, append_noneC w base t ty e i size c ht hi v n xs hown, by simpa using hown, ⟨rfl, rfl, rfl, Nat.le_refl _, fun _ _ _ => rfl⟩, fun k hk => .inl hk⟩
  · exact Sh.run_append_fresh (P := P) w base t ty e i z size bytes ht hi hz hsize hby hzs hsz v n xs hown ad m c news hl hc h1 h63 hbytes hbase
theorem wp_append_srcV {P : Program} {o : Oper} {a : Act} {w : World} {K : Act → World → Prop} {Q : Exit → Act → World → Prop} (s x : Operand) (t : TypeId)
    (ho : o.op = .call { callee := .builtin .append, args := #[s, x], argTypes := #[t, t] })
    (base : Nat) (e : TypeId) (i : TypeInfo) (z : Value) (size bytes : Nat) (ht : P.underlying t = some (.slice e)) (hi : P.info? e = some i) (hz : i.zero = some z)
    (hsize : i.size = size) (hby : i.bytes = bytes) (hzs : z.cells.size = size) (hsz : 0 < size)
    (v : Value) (n : Nat) (xs : List Value) (hs : a.eval s = v) (hown : w.ownsRow base e size v n xs)
    (sv : Value) (m : Nat) (news : List Value) (hx : a.eval x = sv) (hl : news.length = m * size) (hnews : SrcV w sv m news) (h1 : ∀ u ∈ news, u.oneCell' = true)
    (h63 : n + m ≤ maxLen) (hbytes : (n + m) * bytes ≤ 140737488355328) (hbase : base ≤ w.heap.size)
    (h : ∀ v' w', w'.ownsRow base e size v' (n + m) (xs ++ news) → w.grownBy w' v.ownBlock → (∀ k, v'.ownBlock = some k → v.ownBlock = some k ∨ w.heap.size ≤ k) → K (a.put o.dst v') w') : o.wp P a w K Q := by
  obtain ⟨v', w', hr, h2, h3, h4⟩ := run_append_srcV (P := P) w base t o.type e i z size bytes ht hi hz hsize hby hzs hsz v n xs hown sv m news hl hnews h1 h63 hbytes hbase
  have hgo := h v' w' h2 h3 h4
  simp only [Oper.wp, execOp, ho, resolve, invoke, builtin, Sem.run_bind, Sem.run_pure, Result.andThen_ok, List.map_toArray, List.map_cons, List.map_nil, hs, hx, hr]
  exact hgo
theorem wpList_append_srcV {P : Program} {ops : Array Oper} {rest : List Oper} {o : Oper} {a : Act} {w : World} {Q : Exit → Act → World → Prop} (hgd : o.guard = none) (s x : Operand) (t : TypeId)
    (ho : o.op = .call { callee := .builtin .append, args := #[s, x], argTypes := #[t, t] })
    (base : Nat) (e : TypeId) (i : TypeInfo) (z : Value) (size bytes : Nat) (ht : P.underlying t = some (.slice e)) (hi : P.info? e = some i) (hz : i.zero = some z)
    (hsize : i.size = size) (hby : i.bytes = bytes) (hzs : z.cells.size = size) (hsz : 0 < size)
    (v : Value) (n : Nat) (xs : List Value) (hs : a.eval s = v) (hown : w.ownsRow base e size v n xs)
    (sv : Value) (m : Nat) (news : List Value) (hx : a.eval x = sv) (hl : news.length = m * size) (hnews : SrcV w sv m news) (h1 : ∀ u ∈ news, u.oneCell' = true)
    (h63 : n + m ≤ maxLen) (hbytes : (n + m) * bytes ≤ 140737488355328) (hbase : base ≤ w.heap.size)
    (h : ∀ v' w', w'.ownsRow base e size v' (n + m) (xs ++ news) → w.grownBy w' v.ownBlock → (∀ k, v'.ownBlock = some k → v.ownBlock = some k ∨ w.heap.size ≤ k) → wpList P ops Q rest (a.put o.dst v') w') : wpList P ops Q (o :: rest) a w :=
  wpList_plain hgd fun _ hK => wp_append_srcV s x t ho base e i z size bytes ht hi hz hsize hby hzs hsz v n xs hs hown sv m news hx hl hnews h1 h63 hbytes hbase fun v' w' h2 h3 h4 => hK _ _ (h v' w' h2 h3 h4)
theorem flat_inv {k : Nat} (hk : 0 < k) : ∀ {l : List (List Value)}, (∀ x ∈ l, x.length = k) → ∀ {j : Nat} {u : Value}, l.flatten[j]? = some u → ∃ i r, ∃ h : i < l.length, j = i * k + r ∧ (l[i])[r]? = some u
  | [], _, j, u, h => by simp at h
  | x :: l, hl, j, u, h => by
    have hx : x.length = k := hl x List.mem_cons_self
    rw [List.flatten_cons] at h
    by_cases hj : j < k
    · rw [List.getElem?_append_left (by omega)] at h
      exact ⟨0, j, by simp, by omega, h⟩
    · rw [List.getElem?_append_right (by omega)] at h
      obtain ⟨i, r, hi, e, hu⟩ := flat_inv hk (fun y hy => hl y (List.mem_cons_of_mem _ hy)) h
      exact ⟨i + 1, r, by simpa using hi, by rw [Nat.succ_mul]; omega, by simpa using hu⟩
/-- A piece of a row, from k on, m of them. -/
theorem RowV.piece {w : World} {S : Nat → Prop} {g o sz : Nat} {l : List (List Value)} (h : RowV w S (some ⟨g, o, none⟩) sz l) (hs : 0 < sz) (hl : ∀ x ∈ l, x.length = sz) (k m c : Nat) : SrcV w (.slice (some ⟨g, o + k * sz, none⟩) m c) m ((l.drop k).take m).flatten := by
  refine .inr ⟨_, c, rfl, fun j u hu => ?_⟩
  have hl' : ∀ x ∈ (l.drop k).take m, x.length = sz := fun x hx => hl x (List.mem_of_mem_drop (List.mem_of_mem_take hx))
  obtain ⟨i, r, hi, e, hv⟩ := flat_inv hs hl' hu
  simp only [List.length_take, List.length_drop] at hi
  rw [List.getElem_take, List.getElem_drop] at hv
  rcases h with h | ⟨g', o', e', _, hc⟩
  · rw [h] at hi; simp at hi
  · cases e'
    have := hc (k + i) (by omega) r u hv
    rw [Addr.add_lit, e, show o + k * sz + (i * sz + r) = o + (k + i) * sz + r by rw [Nat.add_mul]; omega]
    exact this
theorem RowV.len0 {w : World} {S : Nat → Prop} {sz : Nat} {l : List (List Value)} (h : RowV w S none sz l) : l = [] := by
  rcases h with h | ⟨_, _, e, _⟩
  · exact h
  · cases e
end Sp
end Go.Proofs.Ytjjpjkkaogfoaaa

namespace Go.Proofs.Ytjjpjkkaogfoaaa
open Go.RowKit
namespace Sp
open Sc

/-- The blocks that are there since b. -/
abbrev New (b : Nat) (w : World) (g : Nat) : Prop := b ≤ g ∧ g < w.heap.size
theorem RowV.newAny {b : Nat} {w : World} {a : Option Addr} {sz : Nat} {l : List (List Value)} (h : RowV w (New b w) a sz l) : RowV w (Any w) a sz l := h.keep (fun _ h => h.2) (fun _ _ => rfl)
theorem TzV.newAny {b : Nat} {w : World} {t : Tz} {c : C4} (h : TzV w (New b w) t c) : TzV w (Any w) t c := h.keep (fun _ h => h.2) (fun _ _ => rfl)
theorem TzV.growN {b : Nat} {w w' : World} {t : Tz} {c : C4} (h : TzV w (New b w) t c) (hb : Below w.heap.size w w') : TzV w' (New b w') t c :=
  h.keep (fun _ hg => ⟨hg.1, Nat.lt_of_lt_of_le hg.2 hb.size⟩) (fun g hg => hb.block g hg.2)
theorem RowV.at {w W : World} {a : Option Addr} {sz : Nat} {l : List (List Value)} (h : RowV w (Any w) a sz l) (hb : Below w.heap.size w W) : RowV W (Any w) a sz l := h.keep (fun _ h => h) (fun g hg => hb.block g hg)
theorem RowV.front {w : World} {S : Nat → Prop} {a : Option Addr} {sz : Nat} {l : List (List Value)} (h : RowV w S a sz l) (hs : 0 < sz) (hl : ∀ x ∈ l, x.length = sz) (j c : Nat) (hj : j ≤ l.length) : SrcV w (.slice a j c) j (l.take j).flatten := by
  by_cases h0 : l = []
  · subst h0
    obtain rfl : j = 0 := by simpa using hj
    cases a with
    | none => exact .inl ⟨c, rfl, rfl, rfl⟩
    | some ad => exact .inr ⟨ad, c, rfl, fun j u hu => by simp at hu⟩
  · rcases h with h | ⟨g, o, rfl, hg, hc⟩
    · exact absurd h h0
    · have := RowV.piece (.inr ⟨g, o, rfl, hg, hc⟩ : RowV w S (some ⟨g, o, none⟩) sz l) hs hl 0 j c
      simpa using this
theorem RowV.back {w : World} {S : Nat → Prop} {a : Option Addr} {sz : Nat} {l : List (List Value)} (h : RowV w S a sz l) (hs : 0 < sz) (hl : ∀ x ∈ l, x.length = sz) (j c : Nat) (hj : j ≤ l.length) (hc : l.length ≤ c) : SrcV w (.slice (if c = j then a else a.map (·.add (j * sz))) (l.length - j) (c - j)) (l.length - j) (l.drop j).flatten := by
  by_cases h0 : l.length - j = 0
  · have e : l.drop j = [] := List.drop_of_length_le (by omega)
    rw [h0, e]
    generalize (if c = j then a else a.map (·.add (j * sz))) = a'
    cases a' with
    | none => exact .inl ⟨_, rfl, rfl, rfl⟩
    | some ad => exact .inr ⟨ad, _, rfl, fun j u hu => by simp at hu⟩
  · rw [if_neg (by omega)]
    rcases h with h | ⟨g, o, rfl, hg, hcl⟩
    · rw [h] at h0; simp at h0
    · have := RowV.piece (.inr ⟨g, o, rfl, hg, hcl⟩ : RowV w S (some ⟨g, o, none⟩) sz l) hs hl j (l.length - j) (c - j)
      rw [List.take_of_length_le (by simp)] at this
      simpa [Addr.add_lit] using this
theorem own_some {b n c g : Nat} (e : (Value.slice (some ⟨b, 0, none⟩) n c).ownBlock = some g) : b = g := by simpa [Value.ownBlock] using e
theorem Below.of_allocZ {B : Nat} (w : World) (o : Obj) (h : B ≤ w.heap.size) : Below B w (w.alloc o) := (Below.refl B w).alloc h o
theorem RowV.allocZ {w wr : World} {a : Option Addr} {sz : Nat} {l : List (List Value)} (h : RowV w (Any w) a sz l) (hb : Below w.heap.size w wr) (hz : w.heap.size ≤ wr.heap.size) (o : Obj) : RowV (wr.alloc o) (Any w) a sz l := h.at (hb.alloc hz o)
def nmF (ns : List (List UInt8)) : List Value := (ns.map fun n => [str n]).flatten
def kdF (us : List C4) : List Value := (us.map C4.cells).flatten
theorem nmF_take (ns : List (List UInt8)) (j : Nat) : ((ns.map fun n => [str n]).take j).flatten = nmF (ns.take j) := by rw [nmF, List.map_take]
theorem nmF_drop (ns : List (List UInt8)) (j : Nat) : ((ns.map fun n => [str n]).drop j).flatten = nmF (ns.drop j) := by rw [nmF, List.map_drop]
theorem kdF_take (us : List C4) (j : Nat) : ((us.map C4.cells).take j).flatten = kdF (us.take j) := by rw [kdF, List.map_take]
theorem kdF_drop (us : List C4) (j : Nat) : ((us.map C4.cells).drop j).flatten = kdF (us.drop j) := by rw [kdF, List.map_drop]
theorem nmF_len (ns : List (List UInt8)) : (nmF ns).length = ns.length * 1 := by
  unfold nmF
  induction ns with
  | nil => rfl
  | cons a l ih => simp only [List.map_cons, List.flatten_cons, List.length_append, ih, List.length_cons]; simp; omega
theorem kdF_len (us : List C4) : (kdF us).length = us.length * 4 := by
  unfold kdF
  induction us with
  | nil => rfl
  | cons a l ih => simp only [List.map_cons, List.flatten_cons, List.length_append, ih, List.length_cons]; simp [C4.cells]; omega
theorem nmF_one (ns : List (List UInt8)) : ∀ u ∈ nmF ns, u.oneCell' = true := fun u hu => by
  obtain ⟨x, hx, hu⟩ := List.mem_flatten.1 hu
  obtain ⟨y, _, rfl⟩ := List.mem_map.1 hx
  simp at hu; subst hu; rfl
theorem kdF_one (us : List C4) : ∀ u ∈ kdF us, u.oneCell' = true := fun u hu => by
  obtain ⟨x, hx, hu⟩ := List.mem_flatten.1 hu
  obtain ⟨y, _, rfl⟩ := List.mem_map.1 hx
  exact C4.one y u hu
theorem apart_new {x y : Value} {b m n c : Nat} (hx : ∀ g, x.ownBlock = some g → g < b) (hf : ∀ k, y.ownBlock = some k → (Value.slice (some ⟨b, 0, none⟩) n c).ownBlock = some k ∨ m ≤ k) (hm : b ≤ m) : ApartV x y := fun g e1 e2 => by
  have := hx g e1
  rcases hf g e2 with h | h
  · have := own_some h; omega
  · omega
theorem put_src {w wr w3 : World} {B : Nat} {a : Option Addr} {us : List C4} (h : RowV w (Any w) a 4 (us.map C4.cells)) (hb : Below w.heap.size w wr) (h3 : Below B wr w3) (hB : w.heap.size ≤ B) (hz : w.heap.size ≤ w3.heap.size) (o : Obj) (j c : Nat) (hj : j ≤ us.length) : SrcV (w3.alloc o) (.slice a j c) j (kdF (us.take j)) := by
  rw [← kdF_take]
  exact (h.at ((hb.trans (h3.mono hB)).alloc hz o)).front (by decide) (cells4_len us) j c (by rw [List.length_map]; exact hj)
def CapOk (c : C4) : Prop := c.ln ≤ c.cn ∧ c.lk ≤ c.ck
/-- What a call of put leaves. -/
def PutP (b : Nat) (t : Tz) (w : World) (e : Ending) (w' : World) : Prop := ∃ c : C4, e = .returned (.agg #[.int .i64 c.k, .string c.n, .slice c.an c.ln c.cn, .slice c.ak c.lk c.ck]) ∧ TzV w' (New b w') t c ∧ CapOk c ∧ Below w.heap.size w w'

/-! ### The last statement: two rows, two appends each -/
/-- One row: before its appends, behind the first, behind both; what the first one appends lies in a block of its own. -/
structure Sd (W0 : World) (base : Nat) (e : TypeId) (sz : Nat) (x : Value) (n : Nat) (xs n1 n2 : List Value) (m2 : Nat) (lb l1 l2 : Bool) (tv a1 a2 : Value) (v : World) : Prop where
  r0 : l1 = false → v.ownsRow base e sz x n xs
  r1 : l1 = true → l2 = false → v.ownsRow base e sz a1 (n + 1) (xs ++ n1)
  r2 : l2 = true → v.ownsRow base e sz a2 (n + 1 + m2) ((xs ++ n1) ++ n2)
  tmp : lb = true → l1 = false → ∃ g, tv = .slice (some ⟨g, 0, none⟩) 1 1 ∧ W0.heap.size ≤ g ∧ g < v.heap.size ∧ v.heap[g]? = some (.cells n1.toArray e (0, 0))
  imp : l2 = true → l1 = true
/-- Where the row lies now. -/
def cur2 (x a1 a2 : Value) (l1 l2 : Bool) : Value := if l2 then a2 else if l1 then a1 else x
section
variable {W0 v v' : World} {base : Nat} {e : TypeId} {sz : Nat} {x : Value} {n : Nat} {xs n1 n2 : List Value} {m2 : Nat} {lb l1 l2 : Bool} {tv a1 a2 : Value}
theorem Sd.start (n1 n2 : List Value) (m2 : Nat) (h : v.ownsRow base e sz x n xs) (tv a1 a2 : Value) : Sd v base e sz x n xs n1 n2 m2 false false false tv a1 a2 v :=
  ⟨fun _ => h, (fun h => by cases h), (fun h => by cases h), (fun h => by cases h), (fun h => by cases h)⟩
theorem Sd.cur_lt (h : Sd W0 base e sz x n xs n1 n2 m2 lb l1 l2 tv a1 a2 v) : ∀ g, (cur2 x a1 a2 l1 l2).ownBlock = some g → base ≤ g ∧ g < v.heap.size := by
  intro g hg
  cases l2 with
  | true => exact (h.r2 rfl).lt g hg
  | false => cases l1 with
    | true => exact (h.r1 rfl rfl).lt g hg
    | false => exact (h.r0 rfl).lt g hg
theorem Sd.keep {r : Option Nat} (h : Sd W0 base e sz x n xs n1 n2 m2 lb l1 l2 tv a1 a2 v) (hg : v.grownBy v' r) (hr : ∀ g, r = some g → (cur2 x a1 a2 l1 l2).ownBlock ≠ some g ∧ (lb = true → l1 = false → tv.ownBlock ≠ some g)) : Sd W0 base e sz x n xs n1 n2 m2 lb l1 l2 tv a1 a2 v' := by
  have hne : ∀ y : Value, (∀ g, r = some g → y.ownBlock ≠ some g) → y.ownBlock = none ∨ y.ownBlock ≠ r := fun y hy => by
    cases hy2 : y.ownBlock with
    | none => exact .inl rfl
    | some g => exact .inr fun e => hy g e.symm hy2
  refine ⟨fun hl => (h.r0 hl).kept hg (hne _ fun g e => ?_), fun hl hl2 => (h.r1 hl hl2).kept hg (hne _ fun g e => ?_), fun hl => (h.r2 hl).kept hg (hne _ fun g e => ?_), fun h1 h2 => ?_, h.imp⟩
  · have := (hr g e).1
    have h2 : l2 = false := by cases h3 : l2 with
      | false => rfl
      | true => have := h.imp h3; rw [hl] at this; cases this
    rw [hl, h2] at this
    exact this
  · have := (hr g e).1
    rw [hl, hl2] at this
    exact this
  · have := (hr g e).1
    rw [hl] at this
    exact this
  · obtain ⟨g, e1, e2, e3, e4⟩ := h.tmp h1 h2
    exact ⟨g, e1, e2, Nat.lt_of_lt_of_le e3 hg.size, (hg.block g e3 (fun e => (hr g e.symm).2 h1 h2 (by rw [e1]; rfl))).trans e4⟩
theorem Sd.lay (h : Sd W0 base e sz x n xs n1 n2 m2 false false false tv a1 a2 v) (hs : W0.heap.size ≤ v.heap.size) : Sd W0 base e sz x n xs n1 n2 m2 true false false (.slice (some ⟨v.heap.size, 0, none⟩) 1 1) a1 a2 (v.alloc (.cells n1.toArray e)) :=
  ⟨fun _ => (h.r0 rfl).alloc _, (fun h => by cases h), (fun h => by cases h), fun _ _ => ⟨v.heap.size, rfl, hs, by simp, heap_alloc_new _ _⟩, (fun h => by cases h)⟩
theorem Sd.app1 {y : Value} (hown : v'.ownsRow base e sz y (n + 1) (xs ++ n1)) : Sd W0 base e sz x n xs n1 n2 m2 true true false tv y a2 v' :=
  ⟨(fun h => by cases h), fun _ _ => hown, (fun h => by cases h), (fun _ h => by cases h), (fun h => by cases h)⟩
theorem Sd.app2 {y : Value} (hown : v'.ownsRow base e sz y (n + 1 + m2) ((xs ++ n1) ++ n2)) : Sd W0 base e sz x n xs n1 n2 m2 lb true true tv a1 y v' :=
  ⟨(fun h => by cases h), (fun _ h => by cases h), fun _ => hown, (fun _ h => by cases h), fun _ => rfl⟩
end
/-- What the operations of the statement yield. -/
structure PV (E j : Nat) (xn xk AN AK A1 A2 : Value) (n : List UInt8) (c : C4) (vals : Nat → Value) : Prop where
  v0 : vals 0 = xn
  v1 : vals 1 = .string ⟨n.toArray⟩
  v4 : vals 4 = .pointer (some ⟨E, 2, none⟩)
  v5 : vals 5 = AN
  v6 : vals 6 = .int .i64 j
  v7 : vals 7 = A1
  v9 : vals 9 = xk
  v10 : vals 10 = .agg #[.int .i64 c.k, .string c.n, .slice c.an c.ln c.cn, .slice c.ak c.lk c.ck]
  v13 : vals 13 = .pointer (some ⟨E, 3, none⟩)
  v14 : vals 14 = AK
  v15 : vals 15 = .int .i64 j
  v16 : vals 16 = A2
  v18 : vals 18 = .pointer (some ⟨E, 2, none⟩)
  v20 : vals 20 = .pointer (some ⟨E, 3, none⟩)
/-- Memory while the statement runs. -/
structure PM (W0 w0 : World) (E base j : Nat) (k : Int) (nm : List UInt8) (xn xk AN AK : Value) (n : List UInt8) (c : C4) (xs zs n2 k2 : List Value) (m1 m2 : Nat) (vals : Nat → Value) (l2 l3 l8 l11 l12 l17 l19 l21 : Bool) (v : World) : Prop where
  sn : Sd W0 base 9 1 xn j xs [.string ⟨n.toArray⟩] n2 m1 l2 l3 l8 (vals 2) (vals 3) (vals 8) v
  sk : Sd W0 base 25 4 xk j zs c.cells k2 m2 l11 l12 l17 (vals 11) (vals 12) (vals 17) v
  ap : ApartV (cur2 xn (vals 3) (vals 8) l3 l8) (cur2 xk (vals 12) (vals 17) l12 l17)
  apt : l11 = true → l12 = false → ApartV (cur2 xn (vals 3) (vals 8) l3 l8) (vals 11)
  tat : v.heap[E]? = some (.cells #[.int .i64 k, .string ⟨nm.toArray⟩, if l19 then vals 8 else AN, if l21 then vals 17 else AK] 25 (0, 0))
  only : Only E w0 v
  size : W0.heap.size ≤ v.heap.size
structure PJ (W0 w0 : World) (E base j : Nat) (k : Int) (nm : List UInt8) (xn xk AN AK A1 A2 : Value) (n : List UInt8) (c : C4) (xs zs n2 k2 : List Value) (m1 m2 : Nat) (ops : Array Oper) (a0 : Act) (listed : Array Bool) (b : Act) (v : World) : Prop where
  size : listed.size = ops.size
  closed : Closed ops listed
  rest : ∃ vals : Nat → Value, Fr ops a0 vals listed b ∧ PV E j xn xk AN AK A1 A2 n c vals ∧ PM W0 w0 E base j k nm xn xk AN AK n c xs zs n2 k2 m1 m2 vals (listed.getD 2 false) (listed.getD 3 false) (listed.getD 8 false) (listed.getD 11 false) (listed.getD 12 false) (listed.getD 17 false) (listed.getD 19 false) (listed.getD 21 false) v
theorem PJ.quiet {W0 w0 : World} {E base j : Nat} {k : Int} {nm : List UInt8} {xn xk AN AK A1 A2 : Value} {n : List UInt8} {c : C4} {xs zs n2 k2 : List Value} {m1 m2 : Nat} {ops : Array Oper} {a0 b : Act} {listed : Array Bool} {v : World} {i : Nat} {o : Oper} {vals : Nat → Value} {Q : Exit → Act → World → Prop} (hz : listed.size = ops.size) (hC : Closed ops listed) (hi : i ∈ Region.ready .any ops listed) (hF : Fr ops a0 vals listed b) (hV : PV E j xn xk AN AK A1 A2 n c vals)
    (hM : PM W0 w0 E base j k nm xn xk AN AK n c xs zs n2 k2 m1 m2 vals (listed.getD 2 false) (listed.getD 3 false) (listed.getD 8 false) (listed.getD 11 false) (listed.getD 12 false) (listed.getD 17 false) (listed.getD 19 false) (listed.getD 21 false) v)
    (hs : Slots ops a0.tmps.size) (ho : ops[i]? = some o) (hg : o.guard = none) (h9 : i ≠ 2 ∧ i ≠ 3 ∧ i ≠ 8 ∧ i ≠ 11 ∧ i ≠ 12 ∧ i ≠ 17 ∧ i ≠ 19 ∧ i ≠ 21) (hr : (execOp b.eval o).run Try.prog v = .ok (.value (vals i)) v) :
    wpOp Try.prog ops Q i (fun b' v' => PJ W0 w0 E base j k nm xn xk AN AK A1 A2 n c xs zs n2 k2 m1 m2 ops a0 (listed.setIfInBounds i true) b' v') b v := by
  refine wpOp_run ho hg hr ⟨by simp [hz], hC.put hi, vals, hF.put hs hz ho, hV, ?_⟩
  simp only [getD_setF]
  simpa [h9.1, h9.2.1, h9.2.2.1, h9.2.2.2.1, h9.2.2.2.2.1, h9.2.2.2.2.2.1, h9.2.2.2.2.2.2.1, h9.2.2.2.2.2.2.2] using hM
theorem zip_vals {P : Tz → C4 → Prop} {ks : List Tz} {us : List C4} : (∀ i (h : i < ks.length) (h' : i < us.length), P ks[i] us[i]) ↔ ∀ p ∈ ks.zip us, P p.1 p.2 := by
  constructor
  · intro h p hp
    obtain ⟨i, hi, rfl⟩ := List.mem_iff_getElem.1 hp
    rw [List.getElem_zip]
    exact h i _ _
  · intro h i h1 h2
    have := h _ (List.getElem_mem (l := ks.zip us) (n := i) (by rw [List.length_zip]; omega))
    rwa [List.getElem_zip] at this
theorem ins_vals {P : Tz → C4 → Prop} {ks : List Tz} {us : List C4} {x : Tz} {c : C4} (hl : us.length = ks.length) (h : ∀ i (h : i < ks.length) (h' : i < us.length), P ks[i] us[i]) (hx : P x c) (j : Nat) :
    ∀ i (h : i < (ks.take j ++ [x] ++ ks.drop j).length) (h' : i < (us.take j ++ [c] ++ us.drop j).length), P (ks.take j ++ [x] ++ ks.drop j)[i] (us.take j ++ [c] ++ us.drop j)[i] := by
  rw [zip_vals] at h ⊢
  intro p hp
  rw [List.zip_append (by simp [hl]), List.zip_append (by simp [hl])] at hp
  rw [List.mem_append, List.mem_append] at hp
  rcases hp with (hp | hp) | hp
  · rw [List.zip, ← List.take_zipWith] at hp
    exact h p (List.mem_of_mem_take hp)
  · simp at hp
    subst hp
    exact hx
  · rw [List.zip, ← List.drop_zipWith] at hp
    exact h p (List.mem_of_mem_drop hp)
theorem own_cap {w : World} {base sz N c m : Nat} {e : TypeId} {a : Option Addr} {xs : List Value} (h : w.ownsRow base e sz (.slice a N c) m xs) : N ≤ c := by
  rcases h.2 with ⟨h, _⟩ | ⟨g, cap, cur, h, _, _, hnc, _⟩
  · cases h; exact Nat.le_refl _
  · cases h; exact hnc
theorem put_made {W : World} {b base N M vc wc : Nat} {va wa : Option Addr} {k : Int} {nm : List UInt8} {ns : List (List UInt8)} {ks : List Tz} {us : List C4} (hN : W.ownsRow base 9 1 (.slice va N vc) N (nmF ns)) (hn : N = ns.length) (hK : W.ownsRow base 25 4 (.slice wa M wc) M (kdF us)) (hm : M = ks.length) (hu : us.length = ks.length) (hb : b ≤ base)
    (hv : ∀ i (h : i < ks.length) (h' : i < us.length), TzV W (New b W) ks[i] us[i]) : TzV W (New b W) (.mk k nm ns ks) ⟨k, ⟨nm.toArray⟩, va, N, vc, wa, M, wc⟩ ∧ CapOk ⟨k, ⟨nm.toArray⟩, va, N, vc, wa, M, wc⟩ := by
  refine ⟨?_, own_cap hN, own_cap hK⟩
  obtain ⟨a1, c1, e1, h1⟩ := RowV.own (S := New b W) (l := ns.map fun n => [str n]) hN (str1_len ns) (by rw [List.length_map]; exact hn) (fun g hg => ⟨Nat.le_trans hb (hN.lt g hg).1, (hN.lt g hg).2⟩)
  obtain ⟨a2, c2, e2, h2⟩ := RowV.own (S := New b W) (l := us.map C4.cells) hK (cells4_len us) (by rw [List.length_map, hu]; exact hm) (fun g hg => ⟨Nat.le_trans hb (hK.lt g hg).1, (hK.lt g hg).2⟩)
  cases e1; cases e2
  subst hn hm
  exact .mk k nm ns ks va vc wa wc us hu h1 h2 hv
theorem nmF_ins (ns : List (List UInt8)) (n : List UInt8) (j : Nat) : (nmF (ns.take j) ++ [.string ⟨n.toArray⟩]) ++ nmF (ns.drop j) = nmF (ns.take j ++ [n] ++ ns.drop j) := by simp [nmF, str]
theorem kdF_ins (us : List C4) (c : C4) (j : Nat) : (kdF (us.take j) ++ c.cells) ++ kdF (us.drop j) = kdF (us.take j ++ [c] ++ us.drop j) := by simp [kdF]
end Sp
end Go.Proofs.Ytjjpjkkaogfoaaa

namespace Go.Proofs.Ytjjpjkkaogfoaaa
open Go.RowKit
namespace Sp
open Sc

structure PRelW (W0 : World) (ns : List (List UInt8)) (n : List UInt8) (sv : Value) (wr : World) (k : Nat) : Prop where
  slot : sv = .int .i64 k
  le : k ≤ ns.length
  less : ∀ i (h : i < ns.length), i < k → Op.bytesLess ns[i] n = true
  same : wr = W0

set_option maxRecDepth 100000 in
set_option maxHeartbeats 8000000 in
theorem put_any (k : Int) (nm : List UInt8) (ns : List (List UInt8)) (ks : List Tz) (n : List UInt8) (x : Tz) (c cx : C4) (z : Nat) (w : World) (hzb : z ≤ w.heap.size) (hV : TzV w (New z w) (.mk k nm ns ks) c) (hX : TzV w (New z w) x cx) (hlen : ns.length = ks.length) (hs : ns.length ≤ 1000) (hc : CapOk c) :
    Calls Try.prog 53 #[.agg #[.int .i64 c.k, .string c.n, .slice c.an c.ln c.cn, .slice c.ak c.lk c.ck], .string ⟨n.toArray⟩, .agg #[.int .i64 cx.k, .string cx.n, .slice cx.an cx.ln cx.cn, .slice cx.ak cx.lk cx.ck]] w (PutP z (putT n x (.mk k nm ns ks)) w) := by
  have hV0 := hV
  cases hV with
  | mk _ _ _ _ an cn ak ck us hl hn hk hu =>
    obtain ⟨hc1, hc2⟩ := hc
    simp only at hc1 hc2
    obtain ⟨W0, hW0⟩ : ∃ W0, W0 = ((w.alloc (.cells #[.int .i64 k, .string ⟨nm.toArray⟩, .slice an ns.length cn, .slice ak ks.length ck] 25)).alloc (.cells #[.int .i64 cx.k, .string cx.n, .slice cx.an cx.ln cx.cn, .slice cx.ak cx.lk cx.ck] 25)).alloc (.cells #[.int .i64 0, .string ⟨#[]⟩, .slice none 0 0, .slice none 0 0] 25) := ⟨_, rfl⟩
    have hz0 : W0.heap.size = w.heap.size + 3 := by rw [hW0]; simp
    have hb0 : Below w.heap.size w W0 := by rw [hW0]; exact (((Below.refl _ _).alloc (Nat.le_refl _) _).alloc (by simp) _).alloc (by simp; omega) _
    have ht0 : W0.heap[w.heap.size]? = some (.cells #[.int .i64 k, .string ⟨nm.toArray⟩, .slice an ns.length cn, .slice ak ks.length ck] 25 (0, 0)) := by rw [hW0, blk_if, if_neg (by simp; omega), blk_if, if_neg (by simp), blk_if, if_pos rfl]
    have hx0 : W0.heap[w.heap.size + 1]? = some (.cells #[.int .i64 cx.k, .string cx.n, .slice cx.an cx.ln cx.cn, .slice cx.ak cx.lk cx.ck] 25 (0, 0)) := by rw [hW0, blk_if, if_neg (by simp), blk_if, if_pos (by simp)]
    have hr0 : W0.heap[w.heap.size + 1 + 1]? = some (.cells #[.int .i64 0, .string ⟨#[]⟩, .slice none 0 0, .slice none 0 0] 25 (0, 0)) := by rw [hW0, blk_if, if_pos (by simp)]
    have e1 := toList_mk' n
    have HN := Lib.hid hn.newAny; have HK := Lib.hid hk.newAny; have HU := Lib.hid hu; have HV := Lib.hid hV0; have HX := Lib.hid hX
    have HW0 := Lib.hid hW0; have HB0 := Lib.hid hb0; have HT0 := Lib.hid ht0; have HX0 := Lib.hid hx0; have HR0 := Lib.hid hr0; have HL := Lib.hid hl; have HLEN := Lib.hid hlen
    obtain ⟨⟨p0, p1, p2, p3⟩, ⟨q0, q1, q2, q3⟩⟩ := four_blk ht0
    obtain ⟨⟨s0, s1, s2, s3⟩, ⟨t0, t1, t2, t3⟩⟩ := four_blk hr0
    obtain ⟨is, his, js, ls, ms⟩ := info_parts infoS
    obtain ⟨ik, hik, jk, kk, lk⟩ := info_parts infoTz
    have HIs := Lib.hid his; have HJs := Lib.hid js; have HKs := Lib.hid ls; have HLs := Lib.hid ms
    have HIk := Lib.hid hik; have HJk := Lib.hid jk; have HKk := Lib.hid kk; have HLk := Lib.hid lk
    clear his js ls ms hik jk kk lk
    clear hn hk hu hV0 hX hW0 hb0 ht0 hx0 hr0 hl hlen
    go_enter Try.func53, Try.ntmps53
    go_wp2
    rw [← HW0.out]
    go_loopw [7] (fun v wr => ∃ j, PRelW W0 ns n v wr j) (fun v _ => ns.length - (intOf v).toNat)
    case atStart => exact ⟨0, rfl, Nat.zero_le _, (fun i h hi => by omega), rfl⟩
    case round =>
      obtain ⟨j, h⟩ := hrel
      obtain rfl := h.slot
      obtain rfl := h.same
      have hj := h.le
      have hlt := h.less
      clear h
      by_cases hjl : j < ns.length
      · obtain ⟨gz, oz, rfl, hg, hcell⟩ := name_at HN.out (fun _ h => h) j hjl
        have c0 := hcell wr HB0.out
        have e2 := toList_mk' ns[j]
        have hjz : (j : Int) < (ns.length : Int) := by omega
        cases hb : Op.bytesLess ns[j] n
        · have hp : posT ns n = j := posT_is hj (fun i h hi => hlt i h hi) (fun _ => hb)
          have hgo : ns[j]? = some ns[j] := List.getElem?_eq_getElem hjl
          by_cases he : ns[j] = n
          · have hput : putT n x (.mk k nm ns ks) = .mk k nm ns ks := by rw [putT, if_pos (by rw [hp, hgo, he])]
            have HPUT := Lib.hid hput
            clear hput hgo hp hlt hcell
            generalize ns[j] = a at *
            subst he
            obtain ⟨⟨v0, v1, v2, v3⟩, _⟩ := four_blk (put4_at HR0.out ⟨k, ⟨nm.toArray⟩, some ⟨gz, oz, none⟩, ns.length, cn, ak, ks.length, ck⟩)
            have hbl : Below w.heap.size w (put4 wr (w.heap.size + 1 + 1) ⟨k, ⟨nm.toArray⟩, some ⟨gz, oz, none⟩, ns.length, cn, ak, ks.length, ck⟩) := HB0.out.trans ((put4_only _ _ _).below (by omega) (by omega))
            have HBL := Lib.hid hbl
            clear hbl
            unfold put4 at v0 v1 v2 v3
            go_wp2
            refine bodyPost_ret (v := .agg #[.int .i64 k, .string ⟨nm.toArray⟩, .slice (some ⟨gz, oz, none⟩) ns.length cn, .slice ak ks.length ck]) (by simp [results, Try.results53, go_sem, v0, v1, v2, v3]) rfl ?_
            rw [HPUT.out]
            exact ⟨⟨k, ⟨nm.toArray⟩, some ⟨gz, oz, none⟩, ns.length, cn, ak, ks.length, ck⟩, rfl, HV.out.growN HBL.out, ⟨hc1, hc2⟩, HBL.out⟩
          · have hput : putT n x (.mk k nm ns ks) = .mk k nm (ns.take j ++ [n] ++ ns.drop j) (ks.take j ++ [x] ++ ks.drop j) := by rw [putT, hp, if_neg (by rw [hgo]; simpa using he)]
            have heq : (ns[j] == n) = false := by simpa using he
            have HPUT := Lib.hid hput
            clear hput hgo hp hlt hcell
            generalize ns[j] = a at *
            have hL0 : (wr.alloc (.cells #[] 9)).ownsRow (w.heap.size + 3) 9 1 (.slice (some ⟨w.heap.size + 3, 0, none⟩) 0 0) 0 [] := by
              have := World.ownsRow_lit (base := w.heap.size + 3) (size := 1) (e := 9) wr #[] 0 (by omega) (by decide) rfl
              rw [hz0] at this
              exact this
            have hF1 : SrcV (wr.alloc (.cells #[] 9)) (.slice (some ⟨gz, oz, none⟩) j cn) j (nmF (ns.take j)) := by
              rw [← nmF_take]
              exact (HN.out.at (HB0.out.alloc (by omega) _)).front (by decide) (str1_len ns) j cn (by rw [List.length_map]; exact hj)
            have hF2 : (nmF (ns.take j)).length = j * 1 := by rw [nmF_len, List.length_take]; omega
            have hF3 : w.heap.size + 3 ≤ (wr.alloc (.cells #[] 9)).heap.size := by simp; omega
            have hj2 : (j : Int) ≤ (cn : Int) := by omega
            have hj3 : (j : Int) ≤ (ck : Int) := by have := HLEN.out; omega
            have hj4 : (j : Int) ≤ (ns.length : Int) := by omega
            have hj5 : (j : Int) ≤ (ks.length : Int) := by have := HLEN.out; omega
            have hj0 : (0 : Int) ≤ (j : Int) := by omega
            have hj6 : j ≤ us.length := by have := HLEN.out; have := HL.out; omega
            have hG2 : (kdF (us.take j)).length = j * 4 := by rw [kdF_len, List.length_take]; omega
            go_wp2_with (first
              | (at_builtin; (refine wpList_append_srcV rfl _ _ 22 rfl (w.heap.size + 3) 9 is (.string ⟨#[]⟩) 1 16 Try.underlying22 HIs.out HJs.out HKs.out HLs.out rfl (by decide) _ 0 [] rfl hL0 _ j _ rfl hF2 hF1 (nmF_one _) (by unfold maxLen; omega) (by omega) hF3 ?_); intro v' w3 hown hgr hfr; rw [Nat.zero_add, List.nil_append] at hown; obtain ⟨xa, xc, rfl⟩ := own_sliceZ hown; have hz3 := hgr.size; simp at hz3; have hb3 : Below (w.heap.size + 3) wr w3 := (Below.of_allocZ wr _ (by omega)).trans (below_grown hgr (fun g e => by have := own_some e; omega) hF3); obtain ⟨⟨p0, p1, p2, p3⟩, ⟨q0, q1, q2, q3⟩⟩ := four_blk ((hb3.block w.heap.size (by omega)).trans HT0.out); have hzw : w.heap.size < w3.heap.size := (by omega); have HO1 := Lib.hid hown; have HB3 := Lib.hid hb3; clear hown hgr hfr hb3 hF1 hF2 hF3 hL0)
              | (at_builtin; (refine wpList_append_srcV rfl _ _ 23 rfl (w.heap.size + 3) 25 ik (.agg #[.int .i64 0, .string ⟨#[]⟩, .slice none 0 0, .slice none 0 0]) 4 72 Try.underlying23 HIk.out HJk.out HKk.out HLk.out rfl (by decide) _ 0 [] rfl (World.ownsRow_lit w3 #[] 0 (by omega) (by decide) rfl) _ j _ rfl hG2 (put_src HK.out HB0.out HB3.out (by omega) (by omega) _ _ ck hj6) (kdF_one _) (by unfold maxLen; omega) (by omega) (by simp; omega) ?_); intro v' w4 hown hgr hfr; rw [Nat.zero_add, List.nil_append] at hown; obtain ⟨za, zc, rfl⟩ := own_sliceZ hown; have hz4 := hgr.size; simp at hz4; have hx4 := (HO1.out.alloc (.cells #[] 25)).kept hgr (own_ne (fun g e1 e2 => by have := own_some e2; have := (HO1.out.lt g e1).2; omega)); have hap : ApartV (.slice xa j xc) (.slice za j zc) := apart_new (fun g e => (HO1.out.lt g e).2) hfr (by simp); have hb4 : Below (w.heap.size + 3) wr w4 := HB3.out.trans ((Below.of_allocZ w3 _ (by omega)).trans (below_grown hgr (fun g e => by have := own_some e; omega) (by simp; omega))); have hxo := hown; have HZ4 := Lib.hid hxo; have HX4 := Lib.hid hx4; have HAP := Lib.hid hap; have HB4 := Lib.hid hb4; clear hown hgr hfr hb4 hx4 hap hxo))
            have hk1000 : ks.length ≤ 1000 := by have := HLEN.out; omega
            have ht4 := (HB4.out.block w.heap.size (by omega)).trans HT0.out
            have ho4 : Only w.heap.size wr w4 := Only.of_below (by rw [hz0]; exact HB4.out)
            have hw4 : w.heap.size + 3 ≤ w4.heap.size := by have := HB4.out.size; omega
            have hg5 : (nmF (ns.drop j)).length = (ns.length - j) * 1 := by rw [nmF_len, List.length_drop]
            have hg6 : (kdF (us.drop j)).length = (ks.length - j) * 4 := by rw [kdF_len, List.length_drop, HL.out]
            obtain ⟨A1, hA1⟩ : ∃ A1, A1 = Value.slice (if cn = j then (some ⟨gz, oz, none⟩) else Option.map (fun ad : Addr => ad.add (j * 1)) (some ⟨gz, oz, none⟩)) (ns.length - j) (cn - j) := ⟨_, rfl⟩
            obtain ⟨A2, hA2⟩ : ∃ A2, A2 = Value.slice (if ck = j then ak else Option.map (fun ad : Addr => ad.add (j * 4)) ak) (ks.length - j) (ck - j) := ⟨_, rfl⟩
            have hS1 : ∀ W, Below w.heap.size w W → SrcV W A1 (ns.length - j) (nmF (ns.drop j)) := fun W hW => by
              have := (HN.out.at hW).back (by decide) (str1_len ns) j cn (by rw [List.length_map]; exact hj) (by rw [List.length_map]; exact hc1)
              rw [List.length_map] at this
              rw [hA1, ← nmF_drop]
              exact this
            have hS2 : ∀ W, Below w.heap.size w W → SrcV W A2 (ks.length - j) (kdF (us.drop j)) := fun W hW => by
              have := (HK.out.at hW).back (by decide) (cells4_len us) j ck (by rw [List.length_map]; exact hj6) (by rw [List.length_map, HL.out]; exact hc2)
              rw [List.length_map, HL.out] at this
              rw [hA2, ← kdF_drop]
              exact this
            have HT4 := Lib.hid ht4; have HO4 := Lib.hid ho4; have HG5 := Lib.hid hg5; have HG6 := Lib.hid hg6; have HA1 := Lib.hid hA1; have HA2 := Lib.hid hA2; have HS1 := Lib.hid hS1; have HS2 := Lib.hid hS2
            clear ht4 ho4 hg5 hg6 hA1 hA2 hS1 hS2 p0 p1 p2 p3 q0 q1 q2 q3
            refine wp_region_by (PJ w4.drew wr (w.heap.size) (w.heap.size + 3) j k nm (.slice xa j xc) (.slice za j zc) (.slice (some ⟨gz, oz, none⟩) ns.length cn) (.slice ak ks.length ck) A1 A2 n cx (nmF (ns.take j)) (kdF (us.take j)) (nmF (ns.drop j)) (kdF (us.drop j)) (ns.length - j) (ks.length - j)) (by kernel_rfl) ?_ ?_ ?_
            · exact ⟨by simp, Closed.start _, fun i => match i with
                | 0 => .slice xa j xc
                | 1 => .string ⟨n.toArray⟩
                | 4 => .pointer (some ⟨w.heap.size, 2, none⟩)
                | 5 => .slice (some ⟨gz, oz, none⟩) ns.length cn
                | 6 => .int .i64 j
                | 7 => A1
                | 9 => .slice za j zc
                | 10 => .agg #[.int .i64 cx.k, .string cx.n, .slice cx.an cx.ln cx.cn, .slice cx.ak cx.lk cx.ck]
                | 13 => .pointer (some ⟨w.heap.size, 3, none⟩)
                | 14 => .slice ak ks.length ck
                | 15 => .int .i64 j
                | 16 => A2
                | 18 => .pointer (some ⟨w.heap.size, 2, none⟩)
                | 20 => .pointer (some ⟨w.heap.size, 3, none⟩)
                | _ => undef, Fr.start _ _ _, ⟨rfl, rfl, rfl, rfl, rfl, rfl, rfl, rfl, rfl, rfl, rfl, rfl, rfl, rfl⟩, by simp only [rep_getD]; exact ⟨Sd.start (v := w4.drew) _ _ _ (show w4.drew.ownsRow _ _ _ _ _ _ from HX4.out) _ _ _, Sd.start (v := w4.drew) _ _ _ (show w4.drew.ownsRow _ _ _ _ _ _ from HZ4.out) _ _ _, HAP.out, (fun h => by cases h), HT4.out, HO4.out.drew, Nat.le_refl _⟩⟩
            · intro listed b v i hJ hi
              obtain ⟨hsz, hC, vals, hF, hV, hM⟩ := hJ
              obtain ⟨hl1, hi22⟩ := not_up hsz hi
              obtain ⟨_, o, ho, hdeps⟩ := mem_ready.1 hi
              have hi22 : i < 22 := hi22
              have hvz : w4.heap.size ≤ v.heap.size := hM.size
              have h19 : listed.getD 19 false = true → listed.getD 5 false = true ∧ listed.getD 14 false = true := fun h => ⟨hC 19 _ rfl h ⟨5, .phase⟩ (by simp) rfl, hC 19 _ rfl h ⟨14, .phase⟩ (by simp) rfl⟩
              have h21 : listed.getD 21 false = true → listed.getD 19 false = true := fun h => hC 21 _ rfl h ⟨19, .chain⟩ (by simp) rfl
              have htb : i = 5 ∨ i = 14 → v.heap[w.heap.size]? = some (.cells #[.int .i64 k, .string ⟨nm.toArray⟩, .slice (some ⟨gz, oz, none⟩) ns.length cn, .slice ak ks.length ck] 25 (0, 0)) := fun hlt => by
                have a := hM.tat
                have l19 : listed.getD 19 false = false := by
                  cases hh : listed.getD 19 false
                  · rfl
                  · have := h19 hh
                    rcases hlt with rfl | rfl
                    · rw [hl1] at this; cases this.1
                    · rw [hl1] at this; cases this.2
                have l21 : listed.getD 21 false = false := by
                  cases hh : listed.getD 21 false
                  · rfl
                  · have := h21 hh; rw [l19] at this; cases this
                rw [l19, l21] at a
                exact a
              obtain rfl | rfl | rfl | rfl | rfl | rfl | rfl | rfl | rfl | rfl | rfl | rfl | rfl | rfl | rfl | rfl | rfl | rfl | rfl | rfl | rfl | rfl : i = 0 ∨ i = 1 ∨ i = 4 ∨ i = 5 ∨ i = 6 ∨ i = 7 ∨ i = 9 ∨ i = 10 ∨ i = 13 ∨ i = 14 ∨ i = 15 ∨ i = 16 ∨ i = 18 ∨ i = 20 ∨ i = 2 ∨ i = 11 ∨ i = 3 ∨ i = 8 ∨ i = 12 ∨ i = 17 ∨ i = 19 ∨ i = 21 := by omega
              · cases ho
                have e := hF.old_is 8 (by rfl) rfl
                refine PJ.quiet hsz hC hi hF hV hM (Slots.of (by rfl)) rfl rfl (by decide) ?_
                rw [hV.v0]
                simp [execOp, go_sem, e]
              · cases ho
                have e := hF.old_is 1 (by rfl) rfl
                refine PJ.quiet hsz hC hi hF hV hM (Slots.of (by rfl)) rfl rfl (by decide) ?_
                rw [hV.v1]
                simp [execOp, go_sem, e]
              · cases ho
                have e := hF.old_is 3 (by rfl) rfl
                refine PJ.quiet hsz hC hi hF hV hM (Slots.of (by rfl)) rfl rfl (by decide) ?_
                rw [hV.v4]
                simp [execOp, go_sem, e]
              · cases ho
                obtain ⟨⟨z0, z1, z2, z3⟩, _⟩ := four_blk (htb (by decide))
                have e := hF.up 4 57 rfl (hdeps ⟨4, .data⟩ (by simp) rfl)
                rw [hV.v4] at e
                refine PJ.quiet hsz hC hi hF hV hM (Slots.of (by rfl)) rfl rfl (by decide) ?_
                rw [hV.v5]
                simp [execOp, go_sem, e, z2]
              · cases ho
                have e := hF.old_is 7 (by rfl) rfl
                refine PJ.quiet hsz hC hi hF hV hM (Slots.of (by rfl)) rfl rfl (by decide) ?_
                rw [hV.v6]
                simp [execOp, go_sem, e]
              · cases ho
                have e := hF.up 5 58 rfl (hdeps ⟨5, .data⟩ (by simp) rfl)
                rw [hV.v5] at e
                have f := hF.up 6 59 rfl (hdeps ⟨6, .data⟩ (by simp) rfl)
                rw [hV.v6] at f
                refine PJ.quiet hsz hC hi hF hV hM (Slots.of (by rfl)) rfl rfl (by decide) ?_
                rw [hV.v7]
                rw [HA1.out]
                simp [execOp, go_sem, e, f, hj0, hj4]
              · cases ho
                have e := hF.old_is 9 (by rfl) rfl
                refine PJ.quiet hsz hC hi hF hV hM (Slots.of (by rfl)) rfl rfl (by decide) ?_
                rw [hV.v9]
                simp [execOp, go_sem, e]
              · cases ho
                have e := hF.old_is 5 (by rfl) rfl
                obtain ⟨⟨y0, y1, y2, y3⟩, _⟩ := four_blk (hM.only.blk HX0.out (by omega))
                refine PJ.quiet hsz hC hi hF hV hM (Slots.of (by rfl)) rfl rfl (by decide) ?_
                rw [hV.v10]
                simp [execOp, go_sem, e, y0, y1, y2, y3]
              · cases ho
                have e := hF.old_is 3 (by rfl) rfl
                refine PJ.quiet hsz hC hi hF hV hM (Slots.of (by rfl)) rfl rfl (by decide) ?_
                rw [hV.v13]
                simp [execOp, go_sem, e]
              · cases ho
                obtain ⟨⟨z0, z1, z2, z3⟩, _⟩ := four_blk (htb (by decide))
                have e := hF.up 13 66 rfl (hdeps ⟨13, .data⟩ (by simp) rfl)
                rw [hV.v13] at e
                refine PJ.quiet hsz hC hi hF hV hM (Slots.of (by rfl)) rfl rfl (by decide) ?_
                rw [hV.v14]
                simp [execOp, go_sem, e, z3]
              · cases ho
                have e := hF.old_is 7 (by rfl) rfl
                refine PJ.quiet hsz hC hi hF hV hM (Slots.of (by rfl)) rfl rfl (by decide) ?_
                rw [hV.v15]
                simp [execOp, go_sem, e]
              · cases ho
                have e := hF.up 14 67 rfl (hdeps ⟨14, .data⟩ (by simp) rfl)
                rw [hV.v14] at e
                have f := hF.up 15 68 rfl (hdeps ⟨15, .data⟩ (by simp) rfl)
                rw [hV.v15] at f
                refine PJ.quiet hsz hC hi hF hV hM (Slots.of (by rfl)) rfl rfl (by decide) ?_
                rw [hV.v16]
                rw [HA2.out]
                simp [execOp, go_sem, e, f, hj0, hj5]
              · cases ho
                have e := hF.old_is 3 (by rfl) rfl
                refine PJ.quiet hsz hC hi hF hV hM (Slots.of (by rfl)) rfl rfl (by decide) ?_
                rw [hV.v18]
                simp [execOp, go_sem, e]
              · cases ho
                have e := hF.old_is 3 (by rfl) rfl
                refine PJ.quiet hsz hC hi hF hV hM (Slots.of (by rfl)) rfl rfl (by decide) ?_
                rw [hV.v20]
                simp [execOp, go_sem, e]
              · cases ho
                have lx : listed.getD 3 false = false := by
                  cases hh : listed.getD 3 false
                  · rfl
                  · have := hC 3 _ rfl hh ⟨2, .data⟩ (by simp) rfl
                    rw [hl1] at this; cases this
                have ly : listed.getD 8 false = false := by
                  cases hh : listed.getD 8 false
                  · rfl
                  · have := hM.sn.imp hh; rw [lx] at this; cases this
                have e := hF.up 1 54 rfl (hdeps ⟨1, .data⟩ (by simp) rfl)
                rw [hV.v1] at e
                obtain ⟨vals', hvals⟩ : ∃ vals' : Nat → Value, vals' = fun q => if q = 2 then .slice (some ⟨v.heap.size, 0, none⟩) 1 1 else vals q := ⟨_, rfl⟩
                have hF' : Fr _ _ vals' listed b := hF.congr (fun i h => by rw [hvals]; exact if_neg (by rintro rfl; rw [hl1] at h; cases h))
                have hV' : PV (w.heap.size) j (.slice xa j xc) (.slice za j zc) (.slice (some ⟨gz, oz, none⟩) ns.length cn) (.slice ak ks.length ck) A1 A2 n cx vals' := by rw [hvals]; exact ⟨hV.v0, hV.v1, hV.v4, hV.v5, hV.v6, hV.v7, hV.v9, hV.v10, hV.v13, hV.v14, hV.v15, hV.v16, hV.v18, hV.v20⟩
                have hn : vals' 2 = .slice (some ⟨v.heap.size, 0, none⟩) 1 1 := by rw [hvals]; rfl
                have hsame : ∀ q, q ≠ 2 → vals' q = vals q := fun q hq => by rw [hvals]; exact if_neg hq
                refine wpOp_run (w' := v.alloc (.cells #[.string ⟨n.toArray⟩] 9)) (v := vals' 2) rfl rfl ?_ ⟨by simpa using hsz, hC.put hi, vals', hF'.put (Slots.of (by rfl)) hsz rfl, hV', ?_⟩
                · rw [hn]
                  simp [execOp, go_sem, e]
                · have gr : v.grownBy (v.alloc (.cells #[.string ⟨n.toArray⟩] 9)) none := World.grownBy_alloc v _ _
                  simp only [getD_setF, hl1, lx, ly, hsz]
                  have a := hM.sn
                  have c := hM.ap
                  rw [hl1, lx, ly] at a
                  rw [lx, ly] at c
                  have ap2 := hM.apt
                  rw [lx, ly] at ap2
                  exact ⟨(by rw [hn, hsame 3 (by decide), hsame 8 (by decide)]; exact a.lay hM.size), (by rw [hsame 11 (by decide), hsame 12 (by decide), hsame 17 (by decide)]; simpa using hM.sk.keep gr (fun g e => by cases e)), (by rw [hsame 3 (by decide), hsame 8 (by decide), hsame 12 (by decide), hsame 17 (by decide)]; simpa using c), (by rw [hsame 3 (by decide), hsame 8 (by decide), hsame 11 (by decide)]; simpa using ap2), (by rw [hsame 8 (by decide), hsame 17 (by decide)]; simpa using blk_allocZ hM.tat _), hM.only.grown gr (fun g e => by cases e), Nat.le_trans hM.size gr.size⟩
              · cases ho
                have lx : listed.getD 12 false = false := by
                  cases hh : listed.getD 12 false
                  · rfl
                  · have := hC 12 _ rfl hh ⟨11, .data⟩ (by simp) rfl
                    rw [hl1] at this; cases this
                have ly : listed.getD 17 false = false := by
                  cases hh : listed.getD 17 false
                  · rfl
                  · have := hM.sk.imp hh; rw [lx] at this; cases this
                have e := hF.up 10 63 rfl (hdeps ⟨10, .data⟩ (by simp) rfl)
                rw [hV.v10] at e
                obtain ⟨vals', hvals⟩ : ∃ vals' : Nat → Value, vals' = fun q => if q = 11 then .slice (some ⟨v.heap.size, 0, none⟩) 1 1 else vals q := ⟨_, rfl⟩
                have hF' : Fr _ _ vals' listed b := hF.congr (fun i h => by rw [hvals]; exact if_neg (by rintro rfl; rw [hl1] at h; cases h))
                have hV' : PV (w.heap.size) j (.slice xa j xc) (.slice za j zc) (.slice (some ⟨gz, oz, none⟩) ns.length cn) (.slice ak ks.length ck) A1 A2 n cx vals' := by rw [hvals]; exact ⟨hV.v0, hV.v1, hV.v4, hV.v5, hV.v6, hV.v7, hV.v9, hV.v10, hV.v13, hV.v14, hV.v15, hV.v16, hV.v18, hV.v20⟩
                have hn : vals' 11 = .slice (some ⟨v.heap.size, 0, none⟩) 1 1 := by rw [hvals]; rfl
                have hsame : ∀ q, q ≠ 11 → vals' q = vals q := fun q hq => by rw [hvals]; exact if_neg hq
                refine wpOp_run (w' := v.alloc (.cells #[.int .i64 cx.k, .string cx.n, .slice cx.an cx.ln cx.cn, .slice cx.ak cx.lk cx.ck] 25)) (v := vals' 11) rfl rfl ?_ ⟨by simpa using hsz, hC.put hi, vals', hF'.put (Slots.of (by rfl)) hsz rfl, hV', ?_⟩
                · rw [hn]
                  simp [execOp, go_sem, e]
                · have gr : v.grownBy (v.alloc (.cells #[.int .i64 cx.k, .string cx.n, .slice cx.an cx.ln cx.cn, .slice cx.ak cx.lk cx.ck] 25)) none := World.grownBy_alloc v _ _
                  simp only [getD_setF, hl1, lx, ly, hsz]
                  have a := hM.sk
                  have c := hM.ap
                  rw [hl1, lx, ly] at a
                  rw [lx, ly] at c
                  skip
                  skip
                  exact ⟨(by rw [hsame 2 (by decide), hsame 3 (by decide), hsame 8 (by decide)]; simpa using hM.sn.keep gr (fun g e => by cases e)), (by rw [hn, hsame 12 (by decide), hsame 17 (by decide)]; exact a.lay hM.size), (by rw [hsame 3 (by decide), hsame 8 (by decide), hsame 12 (by decide), hsame 17 (by decide)]; simpa using c), (by rw [hn, hsame 3 (by decide), hsame 8 (by decide)]; exact fun _ _ g e1 e2 => by have := own_some e2; have := (hM.sn.cur_lt g (by simpa using e1)).2; omega), (by rw [hsame 8 (by decide), hsame 17 (by decide)]; simpa using blk_allocZ hM.tat _), hM.only.grown gr (fun g e => by cases e), Nat.le_trans hM.size gr.size⟩
              · cases ho
                have la := hdeps ⟨0, .data⟩ (by simp) rfl
                have lb := hdeps ⟨2, .data⟩ (by simp) rfl
                have ly : listed.getD 8 false = false := by
                  cases hh : listed.getD 8 false
                  · rfl
                  · have := hM.sn.imp hh; rw [hl1] at this; cases this
                have a := hM.sn
                have c := hM.ap
                rw [lb, hl1, ly] at a
                rw [hl1, ly] at c
                obtain ⟨g, t1, t2, t3, t4⟩ := a.tmp rfl rfl
                have hx : ∀ g, (Value.slice xa j xc).ownBlock = some g → w.heap.size + 3 ≤ g := fun g e => ((a.r0 rfl).lt g e).1
                have hp : listed.getD 11 false = true → listed.getD 12 false = false → ApartV (.slice xa j xc) (vals 11) := fun h1 h2 => by have := hM.apt h1 h2; rw [hl1, ly] at this; exact this
                refine wpOp_wp rfl rfl (Sh.wp_append_fresh (.tmp 53) (.tmp 55) 22 rfl (w.heap.size + 3) 9 is (.string ⟨#[]⟩) 1 16 Try.underlying22 HIs.out HJs.out HKs.out HLs.out rfl (by decide) (.slice xa j xc) j (nmF (ns.take j)) ((hF.eval (i := 0) rfl la).trans hV.v0) (a.r0 rfl) ⟨g, 0, none⟩ 1 1 [.string ⟨n.toArray⟩] ((hF.eval (i := 2) rfl lb).trans t1) rfl (fun q u hu => by rw [addr_addZ]; simp only [World.cell?, t4]; simpa using hu) (by intro z hz; simp at hz; subst hz; rfl) (by unfold maxLen; omega) (by omega) (by omega) ?_)
                intro y w3 hown hgr hfr
                obtain ⟨vals', hvals⟩ : ∃ vals' : Nat → Value, vals' = fun q => if q = 3 then y else vals q := ⟨_, rfl⟩
                have hF' : Fr _ _ vals' listed b := hF.congr (fun i h => by rw [hvals]; exact if_neg (by rintro rfl; rw [hl1] at h; cases h))
                have hV' : PV (w.heap.size) j (.slice xa j xc) (.slice za j zc) (.slice (some ⟨gz, oz, none⟩) ns.length cn) (.slice ak ks.length ck) A1 A2 n cx vals' := by rw [hvals]; exact ⟨hV.v0, hV.v1, hV.v4, hV.v5, hV.v6, hV.v7, hV.v9, hV.v10, hV.v13, hV.v14, hV.v15, hV.v16, hV.v18, hV.v20⟩
                have hn : vals' 3 = y := by rw [hvals]; rfl
                have hsame : ∀ q, q ≠ 3 → vals' q = vals q := fun q hq => by rw [hvals]; exact if_neg hq
                have l19 : listed.getD 19 false = false := by
                  cases hh : listed.getD 19 false
                  · rfl
                  · have := hC 19 _ rfl hh ⟨17, .chain⟩ (by simp) rfl
                    have := hC 17 _ rfl this ⟨12, .data⟩ (by simp) rfl; have := hC 12 _ rfl this ⟨8, .chain⟩ (by simp) rfl; have := hM.sn.imp this; rw [hl1] at this; cases this
                have l21 : listed.getD 21 false = false := by
                  cases hh : listed.getD 21 false
                  · rfl
                  · have := h21 hh; rw [l19] at this; cases this
                refine ⟨by simpa using hsz, hC.put hi, vals', hn ▸ hF'.put (Slots.of (by rfl)) hsz rfl, hV', ?_⟩
                simp only [getD_setF, hl1, ly, lb, hsz, l19, l21]
                have ko := hM.sk.keep hgr (fun g e => ⟨c g e, fun h1 h2 => hp h1 h2 g e⟩)
                have ap : ApartV y (cur2 (.slice za j zc) (vals 12) (vals 17) (listed.getD 12 false) (listed.getD 17 false)) := ApartV.app c hfr (fun g hg => (hM.sk.cur_lt g hg).2)
                have at' : listed.getD 11 false = true → listed.getD 12 false = false → ApartV y (vals 11) := fun h1 h2 => ApartV.app (hp h1 h2) hfr (fun g hg => by obtain ⟨g', t1', _, t3', _⟩ := hM.sk.tmp h1 h2; rw [t1'] at hg; have := own_some hg; omega)
                have tt := (hgr.block (w.heap.size) (by omega) (fun e => by have := hx _ e.symm; omega)).trans hM.tat
                rw [l19, l21] at tt
                exact ⟨(by rw [hn, hsame 2 (by decide), hsame 8 (by decide)]; exact Sd.app1 hown), (by rw [hsame 11 (by decide), hsame 12 (by decide), hsame 17 (by decide)]; simpa using ko), (by rw [hn, hsame 8 (by decide), hsame 12 (by decide), hsame 17 (by decide)]; simpa [cur2] using ap), (by rw [hn, hsame 8 (by decide), hsame 11 (by decide)]; simpa [cur2] using at'), (by simpa using tt), hM.only.grown hgr (fun g e => .inr (by have := hx g e; omega)), Nat.le_trans hM.size hgr.size⟩
              · cases ho
                have la := hdeps ⟨3, .data⟩ (by simp) rfl
                have lb := hdeps ⟨7, .data⟩ (by simp) rfl
                have a := hM.sn
                have c := hM.ap
                rw [la, hl1] at a
                rw [la, hl1] at c
                have hx : ∀ g, (vals 3).ownBlock = some g → w.heap.size + 3 ≤ g := fun g e => ((a.r1 rfl rfl).lt g e).1
                have hp : listed.getD 11 false = true → listed.getD 12 false = false → ApartV (vals 3) (vals 11) := fun h1 h2 => by have := hM.apt h1 h2; rw [la, hl1] at this; exact this
                refine wpOp_wp rfl rfl (wp_append_srcV (.tmp 56) (.tmp 60) 22 rfl (w.heap.size + 3) 9 is (.string ⟨#[]⟩) 1 16 Try.underlying22 HIs.out HJs.out HKs.out HLs.out rfl (by decide) (vals 3) (j + 1) ((nmF (ns.take j)) ++ [.string ⟨n.toArray⟩]) (hF.eval (i := 3) rfl la) (a.r1 rfl rfl) A1 (ns.length - j) (nmF (ns.drop j)) ((hF.eval (i := 7) rfl lb).trans hV.v7) HG5.out (HS1.out v (HB0.out.trans (hM.only.below (Nat.le_refl _) (by omega)))) (nmF_one _) (by unfold maxLen; omega) (by omega) (by omega) ?_)
                intro y w3 hown hgr hfr
                obtain ⟨vals', hvals⟩ : ∃ vals' : Nat → Value, vals' = fun q => if q = 8 then y else vals q := ⟨_, rfl⟩
                have hF' : Fr _ _ vals' listed b := hF.congr (fun i h => by rw [hvals]; exact if_neg (by rintro rfl; rw [hl1] at h; cases h))
                have hV' : PV (w.heap.size) j (.slice xa j xc) (.slice za j zc) (.slice (some ⟨gz, oz, none⟩) ns.length cn) (.slice ak ks.length ck) A1 A2 n cx vals' := by rw [hvals]; exact ⟨hV.v0, hV.v1, hV.v4, hV.v5, hV.v6, hV.v7, hV.v9, hV.v10, hV.v13, hV.v14, hV.v15, hV.v16, hV.v18, hV.v20⟩
                have hn : vals' 8 = y := by rw [hvals]; rfl
                have hsame : ∀ q, q ≠ 8 → vals' q = vals q := fun q hq => by rw [hvals]; exact if_neg hq
                have l19 : listed.getD 19 false = false := by
                  cases hh : listed.getD 19 false
                  · rfl
                  · have := hC 19 _ rfl hh ⟨17, .chain⟩ (by simp) rfl
                    have := hC 17 _ rfl this ⟨12, .data⟩ (by simp) rfl; have := hC 12 _ rfl this ⟨8, .chain⟩ (by simp) rfl; rw [hl1] at this; cases this
                have l21 : listed.getD 21 false = false := by
                  cases hh : listed.getD 21 false
                  · rfl
                  · have := h21 hh; rw [l19] at this; cases this
                refine ⟨by simpa using hsz, hC.put hi, vals', hn ▸ hF'.put (Slots.of (by rfl)) hsz rfl, hV', ?_⟩
                simp only [getD_setF, hl1, la, hsz, l19, l21]
                have ko := hM.sk.keep hgr (fun g e => ⟨c g e, fun h1 h2 => hp h1 h2 g e⟩)
                have ap : ApartV y (cur2 (.slice za j zc) (vals 12) (vals 17) (listed.getD 12 false) (listed.getD 17 false)) := ApartV.app c hfr (fun g hg => (hM.sk.cur_lt g hg).2)
                have at' : listed.getD 11 false = true → listed.getD 12 false = false → ApartV y (vals 11) := fun h1 h2 => ApartV.app (hp h1 h2) hfr (fun g hg => by obtain ⟨g', t1', _, t3', _⟩ := hM.sk.tmp h1 h2; rw [t1'] at hg; have := own_some hg; omega)
                have tt := (hgr.block (w.heap.size) (by omega) (fun e => by have := hx _ e.symm; omega)).trans hM.tat
                rw [l19, l21] at tt
                exact ⟨(by rw [hn, hsame 2 (by decide), hsame 3 (by decide)]; exact Sd.app2 hown), (by rw [hsame 11 (by decide), hsame 12 (by decide), hsame 17 (by decide)]; simpa using ko), (by rw [hn, hsame 3 (by decide), hsame 12 (by decide), hsame 17 (by decide)]; simpa [cur2] using ap), (by rw [hn, hsame 3 (by decide), hsame 11 (by decide)]; simpa [cur2] using at'), (by simpa using tt), hM.only.grown hgr (fun g e => .inr (by have := hx g e; omega)), Nat.le_trans hM.size hgr.size⟩
              · cases ho
                have la := hdeps ⟨9, .data⟩ (by simp) rfl
                have lb := hdeps ⟨11, .data⟩ (by simp) rfl
                have lc := hdeps ⟨8, .chain⟩ (by simp) rfl
                have lc3 := hM.sn.imp lc
                have ly : listed.getD 17 false = false := by
                  cases hh : listed.getD 17 false
                  · rfl
                  · have := hM.sk.imp hh; rw [hl1] at this; cases this
                have a := hM.sk
                have c := hM.ap
                rw [lb, hl1, ly] at a
                rw [hl1, ly] at c
                obtain ⟨g, t1, t2, t3, t4⟩ := a.tmp rfl rfl
                have hx : ∀ g, (Value.slice za j zc).ownBlock = some g → w.heap.size + 3 ≤ g := fun g e => ((a.r0 rfl).lt g e).1
                refine wpOp_wp rfl rfl (Sh.wp_append_fresh (.tmp 62) (.tmp 64) 23 rfl (w.heap.size + 3) 25 ik (.agg #[.int .i64 0, .string ⟨#[]⟩, .slice none 0 0, .slice none 0 0]) 4 72 Try.underlying23 HIk.out HJk.out HKk.out HLk.out rfl (by decide) (.slice za j zc) j (kdF (us.take j)) ((hF.eval (i := 9) rfl la).trans hV.v9) (a.r0 rfl) ⟨g, 0, none⟩ 1 1 cx.cells ((hF.eval (i := 11) rfl lb).trans t1) rfl (fun q u hu => by rw [addr_addZ]; simp only [World.cell?, t4]; simpa using hu) (by exact C4.one cx) (by unfold maxLen; omega) (by omega) (by omega) ?_)
                intro y w3 hown hgr hfr
                obtain ⟨vals', hvals⟩ : ∃ vals' : Nat → Value, vals' = fun q => if q = 12 then y else vals q := ⟨_, rfl⟩
                have hF' : Fr _ _ vals' listed b := hF.congr (fun i h => by rw [hvals]; exact if_neg (by rintro rfl; rw [hl1] at h; cases h))
                have hV' : PV (w.heap.size) j (.slice xa j xc) (.slice za j zc) (.slice (some ⟨gz, oz, none⟩) ns.length cn) (.slice ak ks.length ck) A1 A2 n cx vals' := by rw [hvals]; exact ⟨hV.v0, hV.v1, hV.v4, hV.v5, hV.v6, hV.v7, hV.v9, hV.v10, hV.v13, hV.v14, hV.v15, hV.v16, hV.v18, hV.v20⟩
                have hn : vals' 12 = y := by rw [hvals]; rfl
                have hsame : ∀ q, q ≠ 12 → vals' q = vals q := fun q hq => by rw [hvals]; exact if_neg hq
                have l19 : listed.getD 19 false = false := by
                  cases hh : listed.getD 19 false
                  · rfl
                  · have := hC 19 _ rfl hh ⟨17, .chain⟩ (by simp) rfl
                    have := hM.sk.imp this; rw [hl1] at this; cases this
                have l21 : listed.getD 21 false = false := by
                  cases hh : listed.getD 21 false
                  · rfl
                  · have := h21 hh; rw [l19] at this; cases this
                refine ⟨by simpa using hsz, hC.put hi, vals', hn ▸ hF'.put (Slots.of (by rfl)) hsz rfl, hV', ?_⟩
                simp only [getD_setF, hl1, ly, lb, hsz, l19, l21]
                have ko := hM.sn.keep hgr (fun g e => ⟨c.symm g e, fun _ h2 => by rw [lc3] at h2; cases h2⟩)
                have ap : ApartV (cur2 (.slice xa j xc) (vals 3) (vals 8) (listed.getD 3 false) (listed.getD 8 false)) y := (ApartV.app c.symm hfr (fun g hg => (hM.sn.cur_lt g hg).2)).symm
                have tt := (hgr.block (w.heap.size) (by omega) (fun e => by have := hx _ e.symm; omega)).trans hM.tat
                rw [l19, l21] at tt
                exact ⟨(by rw [hsame 2 (by decide), hsame 3 (by decide), hsame 8 (by decide)]; simpa using ko), (by rw [hn, hsame 11 (by decide), hsame 17 (by decide)]; exact Sd.app1 hown), (by rw [hn, hsame 3 (by decide), hsame 8 (by decide), hsame 17 (by decide)]; simpa [cur2] using ap), (fun _ h => by simp at h), (by simpa using tt), hM.only.grown hgr (fun g e => .inr (by have := hx g e; omega)), Nat.le_trans hM.size hgr.size⟩
              · cases ho
                have la := hdeps ⟨12, .data⟩ (by simp) rfl
                have lb := hdeps ⟨16, .data⟩ (by simp) rfl
                have lc8 := hC 12 _ rfl (hdeps ⟨12, .data⟩ (by simp) rfl) ⟨8, .chain⟩ (by simp) rfl
                have lc3 := hM.sn.imp lc8
                have a := hM.sk
                have c := hM.ap
                rw [la, hl1] at a
                rw [la, hl1] at c
                have hx : ∀ g, (vals 12).ownBlock = some g → w.heap.size + 3 ≤ g := fun g e => ((a.r1 rfl rfl).lt g e).1
                refine wpOp_wp rfl rfl (wp_append_srcV (.tmp 65) (.tmp 69) 23 rfl (w.heap.size + 3) 25 ik (.agg #[.int .i64 0, .string ⟨#[]⟩, .slice none 0 0, .slice none 0 0]) 4 72 Try.underlying23 HIk.out HJk.out HKk.out HLk.out rfl (by decide) (vals 12) (j + 1) ((kdF (us.take j)) ++ cx.cells) (hF.eval (i := 12) rfl la) (a.r1 rfl rfl) A2 (ks.length - j) (kdF (us.drop j)) ((hF.eval (i := 16) rfl lb).trans hV.v16) HG6.out (HS2.out v (HB0.out.trans (hM.only.below (Nat.le_refl _) (by omega)))) (kdF_one _) (by unfold maxLen; omega) (by omega) (by omega) ?_)
                intro y w3 hown hgr hfr
                obtain ⟨vals', hvals⟩ : ∃ vals' : Nat → Value, vals' = fun q => if q = 17 then y else vals q := ⟨_, rfl⟩
                have hF' : Fr _ _ vals' listed b := hF.congr (fun i h => by rw [hvals]; exact if_neg (by rintro rfl; rw [hl1] at h; cases h))
                have hV' : PV (w.heap.size) j (.slice xa j xc) (.slice za j zc) (.slice (some ⟨gz, oz, none⟩) ns.length cn) (.slice ak ks.length ck) A1 A2 n cx vals' := by rw [hvals]; exact ⟨hV.v0, hV.v1, hV.v4, hV.v5, hV.v6, hV.v7, hV.v9, hV.v10, hV.v13, hV.v14, hV.v15, hV.v16, hV.v18, hV.v20⟩
                have hn : vals' 17 = y := by rw [hvals]; rfl
                have hsame : ∀ q, q ≠ 17 → vals' q = vals q := fun q hq => by rw [hvals]; exact if_neg hq
                have l19 : listed.getD 19 false = false := by
                  cases hh : listed.getD 19 false
                  · rfl
                  · have := hC 19 _ rfl hh ⟨17, .chain⟩ (by simp) rfl
                    rw [hl1] at this; cases this
                have l21 : listed.getD 21 false = false := by
                  cases hh : listed.getD 21 false
                  · rfl
                  · have := h21 hh; rw [l19] at this; cases this
                refine ⟨by simpa using hsz, hC.put hi, vals', hn ▸ hF'.put (Slots.of (by rfl)) hsz rfl, hV', ?_⟩
                simp only [getD_setF, hl1, la, hsz, l19, l21]
                have ko := hM.sn.keep hgr (fun g e => ⟨c.symm g e, fun _ h2 => by rw [lc3] at h2; cases h2⟩)
                have ap : ApartV (cur2 (.slice xa j xc) (vals 3) (vals 8) (listed.getD 3 false) (listed.getD 8 false)) y := (ApartV.app c.symm hfr (fun g hg => (hM.sn.cur_lt g hg).2)).symm
                have tt := (hgr.block (w.heap.size) (by omega) (fun e => by have := hx _ e.symm; omega)).trans hM.tat
                rw [l19, l21] at tt
                exact ⟨(by rw [hsame 2 (by decide), hsame 3 (by decide), hsame 8 (by decide)]; simpa using ko), (by rw [hn, hsame 11 (by decide), hsame 12 (by decide)]; exact Sd.app2 hown), (by rw [hn, hsame 3 (by decide), hsame 8 (by decide), hsame 12 (by decide)]; simpa [cur2] using ap), (fun _ h => by cases h), (by simpa using tt), hM.only.grown hgr (fun g e => .inr (by have := hx g e; omega)), Nat.le_trans hM.size hgr.size⟩
              · cases ho
                have l8 := hdeps ⟨8, .data⟩ (by simp) rfl
                have l17 := hdeps ⟨17, .chain⟩ (by simp) rfl
                have l3 := hM.sn.imp l8
                have l12 := hM.sk.imp l17
                have l21 : listed.getD 21 false = false := by
                  cases hh : listed.getD 21 false
                  · rfl
                  · have := h21 hh; rw [hl1] at this; cases this
                have tt := hM.tat
                rw [hl1, l21] at tt
                have a := hM.sn
                have a2 := hM.sk
                have c := hM.ap
                rw [l3, l8] at a c
                rw [l12, l17] at a2 c
                obtain ⟨va, vc, hv'⟩ := own_sliceZ (a.r2 rfl)
                obtain ⟨⟨z0, z1, z2, z3⟩, ⟨y0, y1, y2, y3⟩⟩ := four_blk tt
                have e := hF.up 18 71 rfl (hdeps ⟨18, .data⟩ (by simp) rfl)
                have f := hF.up 8 61 rfl (hdeps ⟨8, .data⟩ (by simp) rfl)
                rw [hV.v18] at e
                rw [hv'] at f
                have gr : v.grownBy (v.setCell ⟨w.heap.size, 2, none⟩ (.slice va (j + 1 + (ns.length - j)) vc)) (some (w.heap.size)) := (Only.refl (w.heap.size) v).setCell 2 _
                have k1 := a.keep gr (fun g e => by cases e; exact ⟨fun e2 => by have := (a.cur_lt _ e2).1; omega, fun _ h => by cases h⟩)
                have k2 := a2.keep gr (fun g e => by cases e; exact ⟨fun e2 => by have := (a2.cur_lt _ e2).1; omega, fun _ h => by cases h⟩)
                have tn := set_four2 tt (.slice va (j + 1 + (ns.length - j)) vc)
                refine wpOp_wp rfl rfl ?_
                unfold Oper.wp Oper.upon
                simp [execOp, go_sem, e, f, z2, y2]
                refine ⟨by simpa using hsz, hC.put hi, vals, hF.put (i := 19) (Slots.of (by rfl)) hsz rfl, hV, ?_⟩
                simp only [getD_setF, hl1, l3, l8, l12, l17, l21, hsz]
                exact ⟨by simpa using k1, by simpa using k2, by simpa using c, (fun _ h => by simp at h), by rw [hv']; simpa using tn, hM.only.grown gr (fun g e => by cases e; exact .inl rfl), Nat.le_trans hM.size gr.size⟩
              · cases ho
                have l19 := hdeps ⟨19, .chain⟩ (by simp) rfl
                have l17 := hdeps ⟨17, .data⟩ (by simp) rfl
                have l8 := hdeps ⟨8, .phase⟩ (by simp) rfl
                have l3 := hM.sn.imp l8
                have l12 := hM.sk.imp l17
                have tt := hM.tat
                rw [l19, hl1] at tt
                have a := hM.sn
                have a2 := hM.sk
                have c := hM.ap
                rw [l3, l8] at a c
                rw [l12, l17] at a2 c
                obtain ⟨va, vc, hv'⟩ := own_sliceZ (a2.r2 rfl)
                obtain ⟨⟨z0, z1, z2, z3⟩, ⟨y0, y1, y2, y3⟩⟩ := four_blk tt
                have e := hF.up 20 72 rfl (hdeps ⟨20, .data⟩ (by simp) rfl)
                have f := hF.up 17 70 rfl (hdeps ⟨17, .data⟩ (by simp) rfl)
                rw [hV.v20] at e
                rw [hv'] at f
                have gr : v.grownBy (v.setCell ⟨w.heap.size, 3, none⟩ (.slice va (j + 1 + (ks.length - j)) vc)) (some (w.heap.size)) := (Only.refl (w.heap.size) v).setCell 3 _
                have k1 := a.keep gr (fun g e => by cases e; exact ⟨fun e2 => by have := (a.cur_lt _ e2).1; omega, fun _ h => by cases h⟩)
                have k2 := a2.keep gr (fun g e => by cases e; exact ⟨fun e2 => by have := (a2.cur_lt _ e2).1; omega, fun _ h => by cases h⟩)
                have tn := set_four3 tt (.slice va (j + 1 + (ks.length - j)) vc)
                refine wpOp_wp rfl rfl ?_
                unfold Oper.wp Oper.upon
                simp [execOp, go_sem, e, f, z3, y3]
                refine ⟨by simpa using hsz, hC.put hi, vals, hF.put (i := 21) (Slots.of (by rfl)) hsz rfl, hV, ?_⟩
                simp only [getD_setF, hl1, l3, l8, l12, l17, l19, hsz]
                exact ⟨by simpa using k1, by simpa using k2, by simpa using c, (fun _ h => by simp at h), by rw [hv']; simpa using tn, hM.only.grown gr (fun g e => by cases e; exact .inl rfl), Nat.le_trans hM.size gr.size⟩
            · intro listed b v hJ hr
              obtain ⟨hsz, hC, vals, hF, hV, hM⟩ := hJ
              have hall := all_upB (by rfl) hsz hr
              have hb : b = putAll _ vals _ 22 := hF.done (Slots.of (by rfl)) hall
              rw [hall 2 (by decide), hall 3 (by decide), hall 8 (by decide), hall 11 (by decide), hall 12 (by decide), hall 17 (by decide), hall 19 (by decide), hall 21 (by decide)] at hM
              obtain ⟨va, vc, hv8⟩ := own_sliceZ (hM.sn.r2 rfl)
              obtain ⟨wa, wc, hv17⟩ := own_sliceZ (hM.sk.r2 rfl)
              have e1 := hM.sn.r2 rfl
              have e2 := hM.sk.r2 rfl
              have e4 := hM.tat
              simp only [if_true, hv8, hv17] at e4
              rw [hv8, nmF_ins] at e1
              rw [hv17, kdF_ins] at e2
              have e5 := hM.only
              have hvz : w4.heap.size ≤ v.heap.size := hM.size
              have hr4 := e5.blk HR0.out (by omega)
              obtain ⟨⟨z0, z1, z2, z3⟩, ⟨y0, y1, y2, y3⟩⟩ := four_blk e4
              obtain ⟨⟨r0, r1, r2, r3⟩, ⟨x0, x1, x2, x3⟩⟩ := four_blk hr4
              obtain ⟨cc, hcc⟩ : ∃ cc : C4, cc = ⟨k, ⟨nm.toArray⟩, va, j + 1 + (ns.length - j), vc, wa, j + 1 + (ks.length - j), wc⟩ := ⟨_, rfl⟩
              have hp := put4_at hr4 cc
              have hPO := put4_only v (w.heap.size + 1 + 1) cc
              have hbw : Below w.heap.size w (put4 v (w.heap.size + 1 + 1) cc) := HB0.out.trans ((e5.below (Nat.le_refl _) (by omega)).trans (hPO.below (by omega) (by omega)))
              have hr1 := e1.kept hPO (own_nb (fun g e => by have := (e1.lt g e).1; omega))
              have hr2 := e2.kept hPO (own_nb (fun g e => by have := (e2.lt g e).1; omega))
              have hmade := put_made (k := k) (nm := nm) (ns := ns.take j ++ [n] ++ ns.drop j) (ks := ks.take j ++ [x] ++ ks.drop j) (us := us.take j ++ [cx] ++ us.drop j) hr1 (by simp; omega) hr2 (by simp; omega) (by simp; have := HL.out; omega) (by omega) (ins_vals HL.out (fun i h h' => (HU.out i h h').growN hbw) (HX.out.growN hbw) j)
              rw [← hcc] at hmade
              obtain ⟨⟨v0, v1, v2, v3⟩, _⟩ := four_blk hp
              rw [hcc] at v0 v1 v2 v3
              subst hb
              unfold put4 at v0 v1 v2 v3
              simp only [putAll, hV.v0, hV.v1, hV.v4, hV.v5, hV.v6, hV.v7, hV.v9, hV.v10, hV.v13, hV.v14, hV.v15, hV.v16, hV.v18, hV.v20, hv8, hv17]
              simp [dstOf]
              have HMD := Lib.hid hmade; have HBW := Lib.hid hbw; have HCC := Lib.hid hcc
              clear hmade hbw hr1 hr2 hPO hp hr4 e1 e2 e4 e5 hM hF hV hC hv8 hv17 hall hr hsz hcc
              go_wp2
              refine bodyPost_ret (v := .agg #[.int .i64 k, .string ⟨nm.toArray⟩, .slice va (j + 1 + (ns.length - j)) vc, .slice wa (j + 1 + (ks.length - j)) wc]) (by simp [results, Try.results53, go_sem, v0, v1, v2, v3]) rfl ?_
              have hcc := HCC.out
              subst hcc
              rw [HPUT.out]
              exact ⟨_, rfl, HMD.out.1, HMD.out.2, HBW.out⟩
        · have hlt' : ∀ i (h : i < ns.length), i < j + 1 → Op.bytesLess ns[i] n = true := fun i h hi => by
            by_cases e : i = j
            · subst e; exact hb
            · exact hlt i h (by omega)
          have HLT := Lib.hid hlt'
          clear hlt hlt' hcell
          generalize ns[j] = a at *
          go_wp2
          go_roundw
          case rel => exact ⟨j + 1, by go_num, by omega, HLT.out, rfl⟩
          case measure => simp [intOf]; omega
      · have hje : j = ns.length := by omega
        have hp : posT ns n = j := posT_is hj (fun i h hi => hlt i h hi) (fun h => absurd h hjl)
        have hput : putT n x (.mk k nm ns ks) = .mk k nm (ns.take j ++ [n] ++ ns.drop j) (ks.take j ++ [x] ++ ks.drop j) := by rw [putT, hp, if_neg (by rw [List.getElem?_eq_none (by omega)]; simp)]
        have hjz : ¬ (j : Int) < (ns.length : Int) := by omega
        have HPUT := Lib.hid hput
        clear hput hp hlt hje
        have hL0 : (wr.alloc (.cells #[] 9)).ownsRow (w.heap.size + 3) 9 1 (.slice (some ⟨w.heap.size + 3, 0, none⟩) 0 0) 0 [] := by
          have := World.ownsRow_lit (base := w.heap.size + 3) (size := 1) (e := 9) wr #[] 0 (by omega) (by decide) rfl
          rw [hz0] at this
          exact this
        have hF1 : SrcV (wr.alloc (.cells #[] 9)) (.slice an j cn) j (nmF (ns.take j)) := by
          rw [← nmF_take]
          exact (HN.out.at (HB0.out.alloc (by omega) _)).front (by decide) (str1_len ns) j cn (by rw [List.length_map]; exact hj)
        have hF2 : (nmF (ns.take j)).length = j * 1 := by rw [nmF_len, List.length_take]; omega
        have hF3 : w.heap.size + 3 ≤ (wr.alloc (.cells #[] 9)).heap.size := by simp; omega
        have hj2 : (j : Int) ≤ (cn : Int) := by omega
        have hj3 : (j : Int) ≤ (ck : Int) := by have := HLEN.out; omega
        have hj4 : (j : Int) ≤ (ns.length : Int) := by omega
        have hj5 : (j : Int) ≤ (ks.length : Int) := by have := HLEN.out; omega
        have hj0 : (0 : Int) ≤ (j : Int) := by omega
        have hj6 : j ≤ us.length := by have := HLEN.out; have := HL.out; omega
        have hG2 : (kdF (us.take j)).length = j * 4 := by rw [kdF_len, List.length_take]; omega
        go_wp2_with (first
          | (at_builtin; (refine wpList_append_srcV rfl _ _ 22 rfl (w.heap.size + 3) 9 is (.string ⟨#[]⟩) 1 16 Try.underlying22 HIs.out HJs.out HKs.out HLs.out rfl (by decide) _ 0 [] rfl hL0 _ j _ rfl hF2 hF1 (nmF_one _) (by unfold maxLen; omega) (by omega) hF3 ?_); intro v' w3 hown hgr hfr; rw [Nat.zero_add, List.nil_append] at hown; obtain ⟨xa, xc, rfl⟩ := own_sliceZ hown; have hz3 := hgr.size; simp at hz3; have hb3 : Below (w.heap.size + 3) wr w3 := (Below.of_allocZ wr _ (by omega)).trans (below_grown hgr (fun g e => by have := own_some e; omega) hF3); obtain ⟨⟨p0, p1, p2, p3⟩, ⟨q0, q1, q2, q3⟩⟩ := four_blk ((hb3.block w.heap.size (by omega)).trans HT0.out); have hzw : w.heap.size < w3.heap.size := (by omega); have HO1 := Lib.hid hown; have HB3 := Lib.hid hb3; clear hown hgr hfr hb3 hF1 hF2 hF3 hL0)
          | (at_builtin; (refine wpList_append_srcV rfl _ _ 23 rfl (w.heap.size + 3) 25 ik (.agg #[.int .i64 0, .string ⟨#[]⟩, .slice none 0 0, .slice none 0 0]) 4 72 Try.underlying23 HIk.out HJk.out HKk.out HLk.out rfl (by decide) _ 0 [] rfl (World.ownsRow_lit w3 #[] 0 (by omega) (by decide) rfl) _ j _ rfl hG2 (put_src HK.out HB0.out HB3.out (by omega) (by omega) _ _ ck hj6) (kdF_one _) (by unfold maxLen; omega) (by omega) (by simp; omega) ?_); intro v' w4 hown hgr hfr; rw [Nat.zero_add, List.nil_append] at hown; obtain ⟨za, zc, rfl⟩ := own_sliceZ hown; have hz4 := hgr.size; simp at hz4; have hx4 := (HO1.out.alloc (.cells #[] 25)).kept hgr (own_ne (fun g e1 e2 => by have := own_some e2; have := (HO1.out.lt g e1).2; omega)); have hap : ApartV (.slice xa j xc) (.slice za j zc) := apart_new (fun g e => (HO1.out.lt g e).2) hfr (by simp); have hb4 : Below (w.heap.size + 3) wr w4 := HB3.out.trans ((Below.of_allocZ w3 _ (by omega)).trans (below_grown hgr (fun g e => by have := own_some e; omega) (by simp; omega))); have hxo := hown; have HZ4 := Lib.hid hxo; have HX4 := Lib.hid hx4; have HAP := Lib.hid hap; have HB4 := Lib.hid hb4; clear hown hgr hfr hb4 hx4 hap hxo))
        have hk1000 : ks.length ≤ 1000 := by have := HLEN.out; omega
        have ht4 := (HB4.out.block w.heap.size (by omega)).trans HT0.out
        have ho4 : Only w.heap.size wr w4 := Only.of_below (by rw [hz0]; exact HB4.out)
        have hw4 : w.heap.size + 3 ≤ w4.heap.size := by have := HB4.out.size; omega
        have hg5 : (nmF (ns.drop j)).length = (ns.length - j) * 1 := by rw [nmF_len, List.length_drop]
        have hg6 : (kdF (us.drop j)).length = (ks.length - j) * 4 := by rw [kdF_len, List.length_drop, HL.out]
        obtain ⟨A1, hA1⟩ : ∃ A1, A1 = Value.slice (if cn = j then an else Option.map (fun ad : Addr => ad.add (j * 1)) an) (ns.length - j) (cn - j) := ⟨_, rfl⟩
        obtain ⟨A2, hA2⟩ : ∃ A2, A2 = Value.slice (if ck = j then ak else Option.map (fun ad : Addr => ad.add (j * 4)) ak) (ks.length - j) (ck - j) := ⟨_, rfl⟩
        have hS1 : ∀ W, Below w.heap.size w W → SrcV W A1 (ns.length - j) (nmF (ns.drop j)) := fun W hW => by
          have := (HN.out.at hW).back (by decide) (str1_len ns) j cn (by rw [List.length_map]; exact hj) (by rw [List.length_map]; exact hc1)
          rw [List.length_map] at this
          rw [hA1, ← nmF_drop]
          exact this
        have hS2 : ∀ W, Below w.heap.size w W → SrcV W A2 (ks.length - j) (kdF (us.drop j)) := fun W hW => by
          have := (HK.out.at hW).back (by decide) (cells4_len us) j ck (by rw [List.length_map]; exact hj6) (by rw [List.length_map, HL.out]; exact hc2)
          rw [List.length_map, HL.out] at this
          rw [hA2, ← kdF_drop]
          exact this
        have HT4 := Lib.hid ht4; have HO4 := Lib.hid ho4; have HG5 := Lib.hid hg5; have HG6 := Lib.hid hg6; have HA1 := Lib.hid hA1; have HA2 := Lib.hid hA2; have HS1 := Lib.hid hS1; have HS2 := Lib.hid hS2
        clear ht4 ho4 hg5 hg6 hA1 hA2 hS1 hS2 p0 p1 p2 p3 q0 q1 q2 q3
        refine wp_region_by (PJ w4.drew wr (w.heap.size) (w.heap.size + 3) j k nm (.slice xa j xc) (.slice za j zc) (.slice an ns.length cn) (.slice ak ks.length ck) A1 A2 n cx (nmF (ns.take j)) (kdF (us.take j)) (nmF (ns.drop j)) (kdF (us.drop j)) (ns.length - j) (ks.length - j)) (by kernel_rfl) ?_ ?_ ?_
        · exact ⟨by simp, Closed.start _, fun i => match i with
            | 0 => .slice xa j xc
            | 1 => .string ⟨n.toArray⟩
            | 4 => .pointer (some ⟨w.heap.size, 2, none⟩)
            | 5 => .slice an ns.length cn
            | 6 => .int .i64 j
            | 7 => A1
            | 9 => .slice za j zc
            | 10 => .agg #[.int .i64 cx.k, .string cx.n, .slice cx.an cx.ln cx.cn, .slice cx.ak cx.lk cx.ck]
            | 13 => .pointer (some ⟨w.heap.size, 3, none⟩)
            | 14 => .slice ak ks.length ck
            | 15 => .int .i64 j
            | 16 => A2
            | 18 => .pointer (some ⟨w.heap.size, 2, none⟩)
            | 20 => .pointer (some ⟨w.heap.size, 3, none⟩)
            | _ => undef, Fr.start _ _ _, ⟨rfl, rfl, rfl, rfl, rfl, rfl, rfl, rfl, rfl, rfl, rfl, rfl, rfl, rfl⟩, by simp only [rep_getD]; exact ⟨Sd.start (v := w4.drew) _ _ _ (show w4.drew.ownsRow _ _ _ _ _ _ from HX4.out) _ _ _, Sd.start (v := w4.drew) _ _ _ (show w4.drew.ownsRow _ _ _ _ _ _ from HZ4.out) _ _ _, HAP.out, (fun h => by cases h), HT4.out, HO4.out.drew, Nat.le_refl _⟩⟩
        · intro listed b v i hJ hi
          obtain ⟨hsz, hC, vals, hF, hV, hM⟩ := hJ
          obtain ⟨hl1, hi22⟩ := not_up hsz hi
          obtain ⟨_, o, ho, hdeps⟩ := mem_ready.1 hi
          have hi22 : i < 22 := hi22
          have hvz : w4.heap.size ≤ v.heap.size := hM.size
          have h19 : listed.getD 19 false = true → listed.getD 5 false = true ∧ listed.getD 14 false = true := fun h => ⟨hC 19 _ rfl h ⟨5, .phase⟩ (by simp) rfl, hC 19 _ rfl h ⟨14, .phase⟩ (by simp) rfl⟩
          have h21 : listed.getD 21 false = true → listed.getD 19 false = true := fun h => hC 21 _ rfl h ⟨19, .chain⟩ (by simp) rfl
          have htb : i = 5 ∨ i = 14 → v.heap[w.heap.size]? = some (.cells #[.int .i64 k, .string ⟨nm.toArray⟩, .slice an ns.length cn, .slice ak ks.length ck] 25 (0, 0)) := fun hlt => by
            have a := hM.tat
            have l19 : listed.getD 19 false = false := by
              cases hh : listed.getD 19 false
              · rfl
              · have := h19 hh
                rcases hlt with rfl | rfl
                · rw [hl1] at this; cases this.1
                · rw [hl1] at this; cases this.2
            have l21 : listed.getD 21 false = false := by
              cases hh : listed.getD 21 false
              · rfl
              · have := h21 hh; rw [l19] at this; cases this
            rw [l19, l21] at a
            exact a
          obtain rfl | rfl | rfl | rfl | rfl | rfl | rfl | rfl | rfl | rfl | rfl | rfl | rfl | rfl | rfl | rfl | rfl | rfl | rfl | rfl | rfl | rfl : i = 0 ∨ i = 1 ∨ i = 4 ∨ i = 5 ∨ i = 6 ∨ i = 7 ∨ i = 9 ∨ i = 10 ∨ i = 13 ∨ i = 14 ∨ i = 15 ∨ i = 16 ∨ i = 18 ∨ i = 20 ∨ i = 2 ∨ i = 11 ∨ i = 3 ∨ i = 8 ∨ i = 12 ∨ i = 17 ∨ i = 19 ∨ i = 21 := by omega
          · cases ho
            have e := hF.old_is 8 (by rfl) rfl
            refine PJ.quiet hsz hC hi hF hV hM (Slots.of (by rfl)) rfl rfl (by decide) ?_
            rw [hV.v0]
            simp [execOp, go_sem, e]
          · cases ho
            have e := hF.old_is 1 (by rfl) rfl
            refine PJ.quiet hsz hC hi hF hV hM (Slots.of (by rfl)) rfl rfl (by decide) ?_
            rw [hV.v1]
            simp [execOp, go_sem, e]
          · cases ho
            have e := hF.old_is 3 (by rfl) rfl
            refine PJ.quiet hsz hC hi hF hV hM (Slots.of (by rfl)) rfl rfl (by decide) ?_
            rw [hV.v4]
            simp [execOp, go_sem, e]
          · cases ho
            obtain ⟨⟨z0, z1, z2, z3⟩, _⟩ := four_blk (htb (by decide))
            have e := hF.up 4 57 rfl (hdeps ⟨4, .data⟩ (by simp) rfl)
            rw [hV.v4] at e
            refine PJ.quiet hsz hC hi hF hV hM (Slots.of (by rfl)) rfl rfl (by decide) ?_
            rw [hV.v5]
            simp [execOp, go_sem, e, z2]
          · cases ho
            have e := hF.old_is 7 (by rfl) rfl
            refine PJ.quiet hsz hC hi hF hV hM (Slots.of (by rfl)) rfl rfl (by decide) ?_
            rw [hV.v6]
            simp [execOp, go_sem, e]
          · cases ho
            have e := hF.up 5 58 rfl (hdeps ⟨5, .data⟩ (by simp) rfl)
            rw [hV.v5] at e
            have f := hF.up 6 59 rfl (hdeps ⟨6, .data⟩ (by simp) rfl)
            rw [hV.v6] at f
            refine PJ.quiet hsz hC hi hF hV hM (Slots.of (by rfl)) rfl rfl (by decide) ?_
            rw [hV.v7]
            rw [HA1.out]
            simp [execOp, go_sem, e, f, hj0, hj4]
          · cases ho
            have e := hF.old_is 9 (by rfl) rfl
            refine PJ.quiet hsz hC hi hF hV hM (Slots.of (by rfl)) rfl rfl (by decide) ?_
            rw [hV.v9]
            simp [execOp, go_sem, e]
          · cases ho
            have e := hF.old_is 5 (by rfl) rfl
            obtain ⟨⟨y0, y1, y2, y3⟩, _⟩ := four_blk (hM.only.blk HX0.out (by omega))
            refine PJ.quiet hsz hC hi hF hV hM (Slots.of (by rfl)) rfl rfl (by decide) ?_
            rw [hV.v10]
            simp [execOp, go_sem, e, y0, y1, y2, y3]
          · cases ho
            have e := hF.old_is 3 (by rfl) rfl
            refine PJ.quiet hsz hC hi hF hV hM (Slots.of (by rfl)) rfl rfl (by decide) ?_
            rw [hV.v13]
            simp [execOp, go_sem, e]
          · cases ho
            obtain ⟨⟨z0, z1, z2, z3⟩, _⟩ := four_blk (htb (by decide))
            have e := hF.up 13 66 rfl (hdeps ⟨13, .data⟩ (by simp) rfl)
            rw [hV.v13] at e
            refine PJ.quiet hsz hC hi hF hV hM (Slots.of (by rfl)) rfl rfl (by decide) ?_
            rw [hV.v14]
            simp [execOp, go_sem, e, z3]
          · cases ho
            have e := hF.old_is 7 (by rfl) rfl
            refine PJ.quiet hsz hC hi hF hV hM (Slots.of (by rfl)) rfl rfl (by decide) ?_
            rw [hV.v15]
            simp [execOp, go_sem, e]
          · cases ho
            have e := hF.up 14 67 rfl (hdeps ⟨14, .data⟩ (by simp) rfl)
            rw [hV.v14] at e
            have f := hF.up 15 68 rfl (hdeps ⟨15, .data⟩ (by simp) rfl)
            rw [hV.v15] at f
            refine PJ.quiet hsz hC hi hF hV hM (Slots.of (by rfl)) rfl rfl (by decide) ?_
            rw [hV.v16]
            rw [HA2.out]
            simp [execOp, go_sem, e, f, hj0, hj5]
          · cases ho
            have e := hF.old_is 3 (by rfl) rfl
            refine PJ.quiet hsz hC hi hF hV hM (Slots.of (by rfl)) rfl rfl (by decide) ?_
            rw [hV.v18]
            simp [execOp, go_sem, e]
          · cases ho
            have e := hF.old_is 3 (by rfl) rfl
            refine PJ.quiet hsz hC hi hF hV hM (Slots.of (by rfl)) rfl rfl (by decide) ?_
            rw [hV.v20]
            simp [execOp, go_sem, e]
          · cases ho
            have lx : listed.getD 3 false = false := by
              cases hh : listed.getD 3 false
              · rfl
              · have := hC 3 _ rfl hh ⟨2, .data⟩ (by simp) rfl
                rw [hl1] at this; cases this
            have ly : listed.getD 8 false = false := by
              cases hh : listed.getD 8 false
              · rfl
              · have := hM.sn.imp hh; rw [lx] at this; cases this
            have e := hF.up 1 54 rfl (hdeps ⟨1, .data⟩ (by simp) rfl)
            rw [hV.v1] at e
            obtain ⟨vals', hvals⟩ : ∃ vals' : Nat → Value, vals' = fun q => if q = 2 then .slice (some ⟨v.heap.size, 0, none⟩) 1 1 else vals q := ⟨_, rfl⟩
            have hF' : Fr _ _ vals' listed b := hF.congr (fun i h => by rw [hvals]; exact if_neg (by rintro rfl; rw [hl1] at h; cases h))
            have hV' : PV (w.heap.size) j (.slice xa j xc) (.slice za j zc) (.slice an ns.length cn) (.slice ak ks.length ck) A1 A2 n cx vals' := by rw [hvals]; exact ⟨hV.v0, hV.v1, hV.v4, hV.v5, hV.v6, hV.v7, hV.v9, hV.v10, hV.v13, hV.v14, hV.v15, hV.v16, hV.v18, hV.v20⟩
            have hn : vals' 2 = .slice (some ⟨v.heap.size, 0, none⟩) 1 1 := by rw [hvals]; rfl
            have hsame : ∀ q, q ≠ 2 → vals' q = vals q := fun q hq => by rw [hvals]; exact if_neg hq
            refine wpOp_run (w' := v.alloc (.cells #[.string ⟨n.toArray⟩] 9)) (v := vals' 2) rfl rfl ?_ ⟨by simpa using hsz, hC.put hi, vals', hF'.put (Slots.of (by rfl)) hsz rfl, hV', ?_⟩
            · rw [hn]
              simp [execOp, go_sem, e]
            · have gr : v.grownBy (v.alloc (.cells #[.string ⟨n.toArray⟩] 9)) none := World.grownBy_alloc v _ _
              simp only [getD_setF, hl1, lx, ly, hsz]
              have a := hM.sn
              have c := hM.ap
              rw [hl1, lx, ly] at a
              rw [lx, ly] at c
              have ap2 := hM.apt
              rw [lx, ly] at ap2
              exact ⟨(by rw [hn, hsame 3 (by decide), hsame 8 (by decide)]; exact a.lay hM.size), (by rw [hsame 11 (by decide), hsame 12 (by decide), hsame 17 (by decide)]; simpa using hM.sk.keep gr (fun g e => by cases e)), (by rw [hsame 3 (by decide), hsame 8 (by decide), hsame 12 (by decide), hsame 17 (by decide)]; simpa using c), (by rw [hsame 3 (by decide), hsame 8 (by decide), hsame 11 (by decide)]; simpa using ap2), (by rw [hsame 8 (by decide), hsame 17 (by decide)]; simpa using blk_allocZ hM.tat _), hM.only.grown gr (fun g e => by cases e), Nat.le_trans hM.size gr.size⟩
          · cases ho
            have lx : listed.getD 12 false = false := by
              cases hh : listed.getD 12 false
              · rfl
              · have := hC 12 _ rfl hh ⟨11, .data⟩ (by simp) rfl
                rw [hl1] at this; cases this
            have ly : listed.getD 17 false = false := by
              cases hh : listed.getD 17 false
              · rfl
              · have := hM.sk.imp hh; rw [lx] at this; cases this
            have e := hF.up 10 63 rfl (hdeps ⟨10, .data⟩ (by simp) rfl)
            rw [hV.v10] at e
            obtain ⟨vals', hvals⟩ : ∃ vals' : Nat → Value, vals' = fun q => if q = 11 then .slice (some ⟨v.heap.size, 0, none⟩) 1 1 else vals q := ⟨_, rfl⟩
            have hF' : Fr _ _ vals' listed b := hF.congr (fun i h => by rw [hvals]; exact if_neg (by rintro rfl; rw [hl1] at h; cases h))
            have hV' : PV (w.heap.size) j (.slice xa j xc) (.slice za j zc) (.slice an ns.length cn) (.slice ak ks.length ck) A1 A2 n cx vals' := by rw [hvals]; exact ⟨hV.v0, hV.v1, hV.v4, hV.v5, hV.v6, hV.v7, hV.v9, hV.v10, hV.v13, hV.v14, hV.v15, hV.v16, hV.v18, hV.v20⟩
            have hn : vals' 11 = .slice (some ⟨v.heap.size, 0, none⟩) 1 1 := by rw [hvals]; rfl
            have hsame : ∀ q, q ≠ 11 → vals' q = vals q := fun q hq => by rw [hvals]; exact if_neg hq
            refine wpOp_run (w' := v.alloc (.cells #[.int .i64 cx.k, .string cx.n, .slice cx.an cx.ln cx.cn, .slice cx.ak cx.lk cx.ck] 25)) (v := vals' 11) rfl rfl ?_ ⟨by simpa using hsz, hC.put hi, vals', hF'.put (Slots.of (by rfl)) hsz rfl, hV', ?_⟩
            · rw [hn]
              simp [execOp, go_sem, e]
            · have gr : v.grownBy (v.alloc (.cells #[.int .i64 cx.k, .string cx.n, .slice cx.an cx.ln cx.cn, .slice cx.ak cx.lk cx.ck] 25)) none := World.grownBy_alloc v _ _
              simp only [getD_setF, hl1, lx, ly, hsz]
              have a := hM.sk
              have c := hM.ap
              rw [hl1, lx, ly] at a
              rw [lx, ly] at c
              skip
              skip
              exact ⟨(by rw [hsame 2 (by decide), hsame 3 (by decide), hsame 8 (by decide)]; simpa using hM.sn.keep gr (fun g e => by cases e)), (by rw [hn, hsame 12 (by decide), hsame 17 (by decide)]; exact a.lay hM.size), (by rw [hsame 3 (by decide), hsame 8 (by decide), hsame 12 (by decide), hsame 17 (by decide)]; simpa using c), (by rw [hn, hsame 3 (by decide), hsame 8 (by decide)]; exact fun _ _ g e1 e2 => by have := own_some e2; have := (hM.sn.cur_lt g (by simpa using e1)).2; omega), (by rw [hsame 8 (by decide), hsame 17 (by decide)]; simpa using blk_allocZ hM.tat _), hM.only.grown gr (fun g e => by cases e), Nat.le_trans hM.size gr.size⟩
          · cases ho
            have la := hdeps ⟨0, .data⟩ (by simp) rfl
            have lb := hdeps ⟨2, .data⟩ (by simp) rfl
            have ly : listed.getD 8 false = false := by
              cases hh : listed.getD 8 false
              · rfl
              · have := hM.sn.imp hh; rw [hl1] at this; cases this
            have a := hM.sn
            have c := hM.ap
            rw [lb, hl1, ly] at a
            rw [hl1, ly] at c
            obtain ⟨g, t1, t2, t3, t4⟩ := a.tmp rfl rfl
            have hx : ∀ g, (Value.slice xa j xc).ownBlock = some g → w.heap.size + 3 ≤ g := fun g e => ((a.r0 rfl).lt g e).1
            have hp : listed.getD 11 false = true → listed.getD 12 false = false → ApartV (.slice xa j xc) (vals 11) := fun h1 h2 => by have := hM.apt h1 h2; rw [hl1, ly] at this; exact this
            refine wpOp_wp rfl rfl (Sh.wp_append_fresh (.tmp 53) (.tmp 55) 22 rfl (w.heap.size + 3) 9 is (.string ⟨#[]⟩) 1 16 Try.underlying22 HIs.out HJs.out HKs.out HLs.out rfl (by decide) (.slice xa j xc) j (nmF (ns.take j)) ((hF.eval (i := 0) rfl la).trans hV.v0) (a.r0 rfl) ⟨g, 0, none⟩ 1 1 [.string ⟨n.toArray⟩] ((hF.eval (i := 2) rfl lb).trans t1) rfl (fun q u hu => by rw [addr_addZ]; simp only [World.cell?, t4]; simpa using hu) (by intro z hz; simp at hz; subst hz; rfl) (by unfold maxLen; omega) (by omega) (by omega) ?_)
            intro y w3 hown hgr hfr
            obtain ⟨vals', hvals⟩ : ∃ vals' : Nat → Value, vals' = fun q => if q = 3 then y else vals q := ⟨_, rfl⟩
            have hF' : Fr _ _ vals' listed b := hF.congr (fun i h => by rw [hvals]; exact if_neg (by rintro rfl; rw [hl1] at h; cases h))
            have hV' : PV (w.heap.size) j (.slice xa j xc) (.slice za j zc) (.slice an ns.length cn) (.slice ak ks.length ck) A1 A2 n cx vals' := by rw [hvals]; exact ⟨hV.v0, hV.v1, hV.v4, hV.v5, hV.v6, hV.v7, hV.v9, hV.v10, hV.v13, hV.v14, hV.v15, hV.v16, hV.v18, hV.v20⟩
            have hn : vals' 3 = y := by rw [hvals]; rfl
            have hsame : ∀ q, q ≠ 3 → vals' q = vals q := fun q hq => by rw [hvals]; exact if_neg hq
            have l19 : listed.getD 19 false = false := by
              cases hh : listed.getD 19 false
              · rfl
              · have := hC 19 _ rfl hh ⟨17, .chain⟩ (by simp) rfl
                have := hC 17 _ rfl this ⟨12, .data⟩ (by simp) rfl; have := hC 12 _ rfl this ⟨8, .chain⟩ (by simp) rfl; have := hM.sn.imp this; rw [hl1] at this; cases this
            have l21 : listed.getD 21 false = false := by
              cases hh : listed.getD 21 false
              · rfl
              · have := h21 hh; rw [l19] at this; cases this
            refine ⟨by simpa using hsz, hC.put hi, vals', hn ▸ hF'.put (Slots.of (by rfl)) hsz rfl, hV', ?_⟩
            simp only [getD_setF, hl1, ly, lb, hsz, l19, l21]
            have ko := hM.sk.keep hgr (fun g e => ⟨c g e, fun h1 h2 => hp h1 h2 g e⟩)
            have ap : ApartV y (cur2 (.slice za j zc) (vals 12) (vals 17) (listed.getD 12 false) (listed.getD 17 false)) := ApartV.app c hfr (fun g hg => (hM.sk.cur_lt g hg).2)
            have at' : listed.getD 11 false = true → listed.getD 12 false = false → ApartV y (vals 11) := fun h1 h2 => ApartV.app (hp h1 h2) hfr (fun g hg => by obtain ⟨g', t1', _, t3', _⟩ := hM.sk.tmp h1 h2; rw [t1'] at hg; have := own_some hg; omega)
            have tt := (hgr.block (w.heap.size) (by omega) (fun e => by have := hx _ e.symm; omega)).trans hM.tat
            rw [l19, l21] at tt
            exact ⟨(by rw [hn, hsame 2 (by decide), hsame 8 (by decide)]; exact Sd.app1 hown), (by rw [hsame 11 (by decide), hsame 12 (by decide), hsame 17 (by decide)]; simpa using ko), (by rw [hn, hsame 8 (by decide), hsame 12 (by decide), hsame 17 (by decide)]; simpa [cur2] using ap), (by rw [hn, hsame 8 (by decide), hsame 11 (by decide)]; simpa [cur2] using at'), (by simpa using tt), hM.only.grown hgr (fun g e => .inr (by have := hx g e; omega)), Nat.le_trans hM.size hgr.size⟩
          · cases ho
            have la := hdeps ⟨3, .data⟩ (by simp) rfl
            have lb := hdeps ⟨7, .data⟩ (by simp) rfl
            have a := hM.sn
            have c := hM.ap
            rw [la, hl1] at a
            rw [la, hl1] at c
            have hx : ∀ g, (vals 3).ownBlock = some g → w.heap.size + 3 ≤ g := fun g e => ((a.r1 rfl rfl).lt g e).1
            have hp : listed.getD 11 false = true → listed.getD 12 false = false → ApartV (vals 3) (vals 11) := fun h1 h2 => by have := hM.apt h1 h2; rw [la, hl1] at this; exact this
            refine wpOp_wp rfl rfl (wp_append_srcV (.tmp 56) (.tmp 60) 22 rfl (w.heap.size + 3) 9 is (.string ⟨#[]⟩) 1 16 Try.underlying22 HIs.out HJs.out HKs.out HLs.out rfl (by decide) (vals 3) (j + 1) ((nmF (ns.take j)) ++ [.string ⟨n.toArray⟩]) (hF.eval (i := 3) rfl la) (a.r1 rfl rfl) A1 (ns.length - j) (nmF (ns.drop j)) ((hF.eval (i := 7) rfl lb).trans hV.v7) HG5.out (HS1.out v (HB0.out.trans (hM.only.below (Nat.le_refl _) (by omega)))) (nmF_one _) (by unfold maxLen; omega) (by omega) (by omega) ?_)
            intro y w3 hown hgr hfr
            obtain ⟨vals', hvals⟩ : ∃ vals' : Nat → Value, vals' = fun q => if q = 8 then y else vals q := ⟨_, rfl⟩
            have hF' : Fr _ _ vals' listed b := hF.congr (fun i h => by rw [hvals]; exact if_neg (by rintro rfl; rw [hl1] at h; cases h))
            have hV' : PV (w.heap.size) j (.slice xa j xc) (.slice za j zc) (.slice an ns.length cn) (.slice ak ks.length ck) A1 A2 n cx vals' := by rw [hvals]; exact ⟨hV.v0, hV.v1, hV.v4, hV.v5, hV.v6, hV.v7, hV.v9, hV.v10, hV.v13, hV.v14, hV.v15, hV.v16, hV.v18, hV.v20⟩
            have hn : vals' 8 = y := by rw [hvals]; rfl
            have hsame : ∀ q, q ≠ 8 → vals' q = vals q := fun q hq => by rw [hvals]; exact if_neg hq
            have l19 : listed.getD 19 false = false := by
              cases hh : listed.getD 19 false
              · rfl
              · have := hC 19 _ rfl hh ⟨17, .chain⟩ (by simp) rfl
                have := hC 17 _ rfl this ⟨12, .data⟩ (by simp) rfl; have := hC 12 _ rfl this ⟨8, .chain⟩ (by simp) rfl; rw [hl1] at this; cases this
            have l21 : listed.getD 21 false = false := by
              cases hh : listed.getD 21 false
              · rfl
              · have := h21 hh; rw [l19] at this; cases this
            refine ⟨by simpa using hsz, hC.put hi, vals', hn ▸ hF'.put (Slots.of (by rfl)) hsz rfl, hV', ?_⟩
            simp only [getD_setF, hl1, la, hsz, l19, l21]
            have ko := hM.sk.keep hgr (fun g e => ⟨c g e, fun h1 h2 => hp h1 h2 g e⟩)
            have ap : ApartV y (cur2 (.slice za j zc) (vals 12) (vals 17) (listed.getD 12 false) (listed.getD 17 false)) := ApartV.app c hfr (fun g hg => (hM.sk.cur_lt g hg).2)
            have at' : listed.getD 11 false = true → listed.getD 12 false = false → ApartV y (vals 11) := fun h1 h2 => ApartV.app (hp h1 h2) hfr (fun g hg => by obtain ⟨g', t1', _, t3', _⟩ := hM.sk.tmp h1 h2; rw [t1'] at hg; have := own_some hg; omega)
            have tt := (hgr.block (w.heap.size) (by omega) (fun e => by have := hx _ e.symm; omega)).trans hM.tat
            rw [l19, l21] at tt
            exact ⟨(by rw [hn, hsame 2 (by decide), hsame 3 (by decide)]; exact Sd.app2 hown), (by rw [hsame 11 (by decide), hsame 12 (by decide), hsame 17 (by decide)]; simpa using ko), (by rw [hn, hsame 3 (by decide), hsame 12 (by decide), hsame 17 (by decide)]; simpa [cur2] using ap), (by rw [hn, hsame 3 (by decide), hsame 11 (by decide)]; simpa [cur2] using at'), (by simpa using tt), hM.only.grown hgr (fun g e => .inr (by have := hx g e; omega)), Nat.le_trans hM.size hgr.size⟩
          · cases ho
            have la := hdeps ⟨9, .data⟩ (by simp) rfl
            have lb := hdeps ⟨11, .data⟩ (by simp) rfl
            have lc := hdeps ⟨8, .chain⟩ (by simp) rfl
            have lc3 := hM.sn.imp lc
            have ly : listed.getD 17 false = false := by
              cases hh : listed.getD 17 false
              · rfl
              · have := hM.sk.imp hh; rw [hl1] at this; cases this
            have a := hM.sk
            have c := hM.ap
            rw [lb, hl1, ly] at a
            rw [hl1, ly] at c
            obtain ⟨g, t1, t2, t3, t4⟩ := a.tmp rfl rfl
            have hx : ∀ g, (Value.slice za j zc).ownBlock = some g → w.heap.size + 3 ≤ g := fun g e => ((a.r0 rfl).lt g e).1
            refine wpOp_wp rfl rfl (Sh.wp_append_fresh (.tmp 62) (.tmp 64) 23 rfl (w.heap.size + 3) 25 ik (.agg #[.int .i64 0, .string ⟨#[]⟩, .slice none 0 0, .slice none 0 0]) 4 72 Try.underlying23 HIk.out HJk.out HKk.out HLk.out rfl (by decide) (.slice za j zc) j (kdF (us.take j)) ((hF.eval (i := 9) rfl la).trans hV.v9) (a.r0 rfl) ⟨g, 0, none⟩ 1 1 cx.cells ((hF.eval (i := 11) rfl lb).trans t1) rfl (fun q u hu => by rw [addr_addZ]; simp only [World.cell?, t4]; simpa using hu) (by exact C4.one cx) (by unfold maxLen; omega) (by omega) (by omega) ?_)
            intro y w3 hown hgr hfr
            obtain ⟨vals', hvals⟩ : ∃ vals' : Nat → Value, vals' = fun q => if q = 12 then y else vals q := ⟨_, rfl⟩
            have hF' : Fr _ _ vals' listed b := hF.congr (fun i h => by rw [hvals]; exact if_neg (by rintro rfl; rw [hl1] at h; cases h))
            have hV' : PV (w.heap.size) j (.slice xa j xc) (.slice za j zc) (.slice an ns.length cn) (.slice ak ks.length ck) A1 A2 n cx vals' := by rw [hvals]; exact ⟨hV.v0, hV.v1, hV.v4, hV.v5, hV.v6, hV.v7, hV.v9, hV.v10, hV.v13, hV.v14, hV.v15, hV.v16, hV.v18, hV.v20⟩
            have hn : vals' 12 = y := by rw [hvals]; rfl
            have hsame : ∀ q, q ≠ 12 → vals' q = vals q := fun q hq => by rw [hvals]; exact if_neg hq
            have l19 : listed.getD 19 false = false := by
              cases hh : listed.getD 19 false
              · rfl
              · have := hC 19 _ rfl hh ⟨17, .chain⟩ (by simp) rfl
                have := hM.sk.imp this; rw [hl1] at this; cases this
            have l21 : listed.getD 21 false = false := by
              cases hh : listed.getD 21 false
              · rfl
              · have := h21 hh; rw [l19] at this; cases this
            refine ⟨by simpa using hsz, hC.put hi, vals', hn ▸ hF'.put (Slots.of (by rfl)) hsz rfl, hV', ?_⟩
            simp only [getD_setF, hl1, ly, lb, hsz, l19, l21]
            have ko := hM.sn.keep hgr (fun g e => ⟨c.symm g e, fun _ h2 => by rw [lc3] at h2; cases h2⟩)
            have ap : ApartV (cur2 (.slice xa j xc) (vals 3) (vals 8) (listed.getD 3 false) (listed.getD 8 false)) y := (ApartV.app c.symm hfr (fun g hg => (hM.sn.cur_lt g hg).2)).symm
            have tt := (hgr.block (w.heap.size) (by omega) (fun e => by have := hx _ e.symm; omega)).trans hM.tat
            rw [l19, l21] at tt
            exact ⟨(by rw [hsame 2 (by decide), hsame 3 (by decide), hsame 8 (by decide)]; simpa using ko), (by rw [hn, hsame 11 (by decide), hsame 17 (by decide)]; exact Sd.app1 hown), (by rw [hn, hsame 3 (by decide), hsame 8 (by decide), hsame 17 (by decide)]; simpa [cur2] using ap), (fun _ h => by simp at h), (by simpa using tt), hM.only.grown hgr (fun g e => .inr (by have := hx g e; omega)), Nat.le_trans hM.size hgr.size⟩
          · cases ho
            have la := hdeps ⟨12, .data⟩ (by simp) rfl
            have lb := hdeps ⟨16, .data⟩ (by simp) rfl
            have lc8 := hC 12 _ rfl (hdeps ⟨12, .data⟩ (by simp) rfl) ⟨8, .chain⟩ (by simp) rfl
            have lc3 := hM.sn.imp lc8
            have a := hM.sk
            have c := hM.ap
            rw [la, hl1] at a
            rw [la, hl1] at c
            have hx : ∀ g, (vals 12).ownBlock = some g → w.heap.size + 3 ≤ g := fun g e => ((a.r1 rfl rfl).lt g e).1
            refine wpOp_wp rfl rfl (wp_append_srcV (.tmp 65) (.tmp 69) 23 rfl (w.heap.size + 3) 25 ik (.agg #[.int .i64 0, .string ⟨#[]⟩, .slice none 0 0, .slice none 0 0]) 4 72 Try.underlying23 HIk.out HJk.out HKk.out HLk.out rfl (by decide) (vals 12) (j + 1) ((kdF (us.take j)) ++ cx.cells) (hF.eval (i := 12) rfl la) (a.r1 rfl rfl) A2 (ks.length - j) (kdF (us.drop j)) ((hF.eval (i := 16) rfl lb).trans hV.v16) HG6.out (HS2.out v (HB0.out.trans (hM.only.below (Nat.le_refl _) (by omega)))) (kdF_one _) (by unfold maxLen; omega) (by omega) (by omega) ?_)
            intro y w3 hown hgr hfr
            obtain ⟨vals', hvals⟩ : ∃ vals' : Nat → Value, vals' = fun q => if q = 17 then y else vals q := ⟨_, rfl⟩
            have hF' : Fr _ _ vals' listed b := hF.congr (fun i h => by rw [hvals]; exact if_neg (by rintro rfl; rw [hl1] at h; cases h))
            have hV' : PV (w.heap.size) j (.slice xa j xc) (.slice za j zc) (.slice an ns.length cn) (.slice ak ks.length ck) A1 A2 n cx vals' := by rw [hvals]; exact ⟨hV.v0, hV.v1, hV.v4, hV.v5, hV.v6, hV.v7, hV.v9, hV.v10, hV.v13, hV.v14, hV.v15, hV.v16, hV.v18, hV.v20⟩
            have hn : vals' 17 = y := by rw [hvals]; rfl
            have hsame : ∀ q, q ≠ 17 → vals' q = vals q := fun q hq => by rw [hvals]; exact if_neg hq
            have l19 : listed.getD 19 false = false := by
              cases hh : listed.getD 19 false
              · rfl
              · have := hC 19 _ rfl hh ⟨17, .chain⟩ (by simp) rfl
                rw [hl1] at this; cases this
            have l21 : listed.getD 21 false = false := by
              cases hh : listed.getD 21 false
              · rfl
              · have := h21 hh; rw [l19] at this; cases this
            refine ⟨by simpa using hsz, hC.put hi, vals', hn ▸ hF'.put (Slots.of (by rfl)) hsz rfl, hV', ?_⟩
            simp only [getD_setF, hl1, la, hsz, l19, l21]
            have ko := hM.sn.keep hgr (fun g e => ⟨c.symm g e, fun _ h2 => by rw [lc3] at h2; cases h2⟩)
            have ap : ApartV (cur2 (.slice xa j xc) (vals 3) (vals 8) (listed.getD 3 false) (listed.getD 8 false)) y := (ApartV.app c.symm hfr (fun g hg => (hM.sn.cur_lt g hg).2)).symm
            have tt := (hgr.block (w.heap.size) (by omega) (fun e => by have := hx _ e.symm; omega)).trans hM.tat
            rw [l19, l21] at tt
            exact ⟨(by rw [hsame 2 (by decide), hsame 3 (by decide), hsame 8 (by decide)]; simpa using ko), (by rw [hn, hsame 11 (by decide), hsame 12 (by decide)]; exact Sd.app2 hown), (by rw [hn, hsame 3 (by decide), hsame 8 (by decide), hsame 12 (by decide)]; simpa [cur2] using ap), (fun _ h => by cases h), (by simpa using tt), hM.only.grown hgr (fun g e => .inr (by have := hx g e; omega)), Nat.le_trans hM.size hgr.size⟩
          · cases ho
            have l8 := hdeps ⟨8, .data⟩ (by simp) rfl
            have l17 := hdeps ⟨17, .chain⟩ (by simp) rfl
            have l3 := hM.sn.imp l8
            have l12 := hM.sk.imp l17
            have l21 : listed.getD 21 false = false := by
              cases hh : listed.getD 21 false
              · rfl
              · have := h21 hh; rw [hl1] at this; cases this
            have tt := hM.tat
            rw [hl1, l21] at tt
            have a := hM.sn
            have a2 := hM.sk
            have c := hM.ap
            rw [l3, l8] at a c
            rw [l12, l17] at a2 c
            obtain ⟨va, vc, hv'⟩ := own_sliceZ (a.r2 rfl)
            obtain ⟨⟨z0, z1, z2, z3⟩, ⟨y0, y1, y2, y3⟩⟩ := four_blk tt
            have e := hF.up 18 71 rfl (hdeps ⟨18, .data⟩ (by simp) rfl)
            have f := hF.up 8 61 rfl (hdeps ⟨8, .data⟩ (by simp) rfl)
            rw [hV.v18] at e
            rw [hv'] at f
            have gr : v.grownBy (v.setCell ⟨w.heap.size, 2, none⟩ (.slice va (j + 1 + (ns.length - j)) vc)) (some (w.heap.size)) := (Only.refl (w.heap.size) v).setCell 2 _
            have k1 := a.keep gr (fun g e => by cases e; exact ⟨fun e2 => by have := (a.cur_lt _ e2).1; omega, fun _ h => by cases h⟩)
            have k2 := a2.keep gr (fun g e => by cases e; exact ⟨fun e2 => by have := (a2.cur_lt _ e2).1; omega, fun _ h => by cases h⟩)
            have tn := set_four2 tt (.slice va (j + 1 + (ns.length - j)) vc)
            refine wpOp_wp rfl rfl ?_
            unfold Oper.wp Oper.upon
            simp [execOp, go_sem, e, f, z2, y2]
            refine ⟨by simpa using hsz, hC.put hi, vals, hF.put (i := 19) (Slots.of (by rfl)) hsz rfl, hV, ?_⟩
            simp only [getD_setF, hl1, l3, l8, l12, l17, l21, hsz]
            exact ⟨by simpa using k1, by simpa using k2, by simpa using c, (fun _ h => by simp at h), by rw [hv']; simpa using tn, hM.only.grown gr (fun g e => by cases e; exact .inl rfl), Nat.le_trans hM.size gr.size⟩
          · cases ho
            have l19 := hdeps ⟨19, .chain⟩ (by simp) rfl
            have l17 := hdeps ⟨17, .data⟩ (by simp) rfl
            have l8 := hdeps ⟨8, .phase⟩ (by simp) rfl
            have l3 := hM.sn.imp l8
            have l12 := hM.sk.imp l17
            have tt := hM.tat
            rw [l19, hl1] at tt
            have a := hM.sn
            have a2 := hM.sk
            have c := hM.ap
            rw [l3, l8] at a c
            rw [l12, l17] at a2 c
            obtain ⟨va, vc, hv'⟩ := own_sliceZ (a2.r2 rfl)
            obtain ⟨⟨z0, z1, z2, z3⟩, ⟨y0, y1, y2, y3⟩⟩ := four_blk tt
            have e := hF.up 20 72 rfl (hdeps ⟨20, .data⟩ (by simp) rfl)
            have f := hF.up 17 70 rfl (hdeps ⟨17, .data⟩ (by simp) rfl)
            rw [hV.v20] at e
            rw [hv'] at f
            have gr : v.grownBy (v.setCell ⟨w.heap.size, 3, none⟩ (.slice va (j + 1 + (ks.length - j)) vc)) (some (w.heap.size)) := (Only.refl (w.heap.size) v).setCell 3 _
            have k1 := a.keep gr (fun g e => by cases e; exact ⟨fun e2 => by have := (a.cur_lt _ e2).1; omega, fun _ h => by cases h⟩)
            have k2 := a2.keep gr (fun g e => by cases e; exact ⟨fun e2 => by have := (a2.cur_lt _ e2).1; omega, fun _ h => by cases h⟩)
            have tn := set_four3 tt (.slice va (j + 1 + (ks.length - j)) vc)
            refine wpOp_wp rfl rfl ?_
            unfold Oper.wp Oper.upon
            simp [execOp, go_sem, e, f, z3, y3]
            refine ⟨by simpa using hsz, hC.put hi, vals, hF.put (i := 21) (Slots.of (by rfl)) hsz rfl, hV, ?_⟩
            simp only [getD_setF, hl1, l3, l8, l12, l17, l19, hsz]
            exact ⟨by simpa using k1, by simpa using k2, by simpa using c, (fun _ h => by simp at h), by rw [hv']; simpa using tn, hM.only.grown gr (fun g e => by cases e; exact .inl rfl), Nat.le_trans hM.size gr.size⟩
        · intro listed b v hJ hr
          obtain ⟨hsz, hC, vals, hF, hV, hM⟩ := hJ
          have hall := all_upB (by rfl) hsz hr
          have hb : b = putAll _ vals _ 22 := hF.done (Slots.of (by rfl)) hall
          rw [hall 2 (by decide), hall 3 (by decide), hall 8 (by decide), hall 11 (by decide), hall 12 (by decide), hall 17 (by decide), hall 19 (by decide), hall 21 (by decide)] at hM
          obtain ⟨va, vc, hv8⟩ := own_sliceZ (hM.sn.r2 rfl)
          obtain ⟨wa, wc, hv17⟩ := own_sliceZ (hM.sk.r2 rfl)
          have e1 := hM.sn.r2 rfl
          have e2 := hM.sk.r2 rfl
          have e4 := hM.tat
          simp only [if_true, hv8, hv17] at e4
          rw [hv8, nmF_ins] at e1
          rw [hv17, kdF_ins] at e2
          have e5 := hM.only
          have hvz : w4.heap.size ≤ v.heap.size := hM.size
          have hr4 := e5.blk HR0.out (by omega)
          obtain ⟨⟨z0, z1, z2, z3⟩, ⟨y0, y1, y2, y3⟩⟩ := four_blk e4
          obtain ⟨⟨r0, r1, r2, r3⟩, ⟨x0, x1, x2, x3⟩⟩ := four_blk hr4
          obtain ⟨cc, hcc⟩ : ∃ cc : C4, cc = ⟨k, ⟨nm.toArray⟩, va, j + 1 + (ns.length - j), vc, wa, j + 1 + (ks.length - j), wc⟩ := ⟨_, rfl⟩
          have hp := put4_at hr4 cc
          have hPO := put4_only v (w.heap.size + 1 + 1) cc
          have hbw : Below w.heap.size w (put4 v (w.heap.size + 1 + 1) cc) := HB0.out.trans ((e5.below (Nat.le_refl _) (by omega)).trans (hPO.below (by omega) (by omega)))
          have hr1 := e1.kept hPO (own_nb (fun g e => by have := (e1.lt g e).1; omega))
          have hr2 := e2.kept hPO (own_nb (fun g e => by have := (e2.lt g e).1; omega))
          have hmade := put_made (k := k) (nm := nm) (ns := ns.take j ++ [n] ++ ns.drop j) (ks := ks.take j ++ [x] ++ ks.drop j) (us := us.take j ++ [cx] ++ us.drop j) hr1 (by simp; omega) hr2 (by simp; omega) (by simp; have := HL.out; omega) (by omega) (ins_vals HL.out (fun i h h' => (HU.out i h h').growN hbw) (HX.out.growN hbw) j)
          rw [← hcc] at hmade
          obtain ⟨⟨v0, v1, v2, v3⟩, _⟩ := four_blk hp
          rw [hcc] at v0 v1 v2 v3
          subst hb
          unfold put4 at v0 v1 v2 v3
          simp only [putAll, hV.v0, hV.v1, hV.v4, hV.v5, hV.v6, hV.v7, hV.v9, hV.v10, hV.v13, hV.v14, hV.v15, hV.v16, hV.v18, hV.v20, hv8, hv17]
          simp [dstOf]
          have HMD := Lib.hid hmade; have HBW := Lib.hid hbw; have HCC := Lib.hid hcc
          clear hmade hbw hr1 hr2 hPO hp hr4 e1 e2 e4 e5 hM hF hV hC hv8 hv17 hall hr hsz hcc
          go_wp2
          refine bodyPost_ret (v := .agg #[.int .i64 k, .string ⟨nm.toArray⟩, .slice va (j + 1 + (ns.length - j)) vc, .slice wa (j + 1 + (ks.length - j)) wc]) (by simp [results, Try.results53, go_sem, v0, v1, v2, v3]) rfl ?_
          have hcc := HCC.out
          subst hcc
          rw [HPUT.out]
          exact ⟨_, rfl, HMD.out.1, HMD.out.2, HBW.out⟩
end Sp
end Go.Proofs.Ytjjpjkkaogfoaaa

namespace Go.Proofs.Ytjjpjkkaogfoaaa
open Go.RowKit
namespace Sp
open Sc

theorem wpOp_call {P : Program} {ops : Array Oper} {Q : Exit → Act → World → Prop} {i : Nat} {o : Oper} {a : Act} {w : World} {K : Act → World → Prop} (hi : ops[i]? = some o) (hg : o.guard = none) {f : FuncId} {args : Array Value} (hr : (execOp a.eval o).run P w = .ok (.enter f args) w) {R : Ending → World → Prop} (hC : Calls P f args w R) (hK : ∀ e w', R e w' → ∃ v, e = .returned v ∧ K (a.put o.dst v) w') : wpOp P ops Q i K a w :=
  wpOp_wp hi hg (by
    unfold Oper.wp
    rw [hr, Oper.upon_enter]
    exact hC.mono fun e w' h => by
      obtain ⟨v, rfl, hk⟩ := hK e w' h
      exact hk)

/-- The kind that comes out. -/
def topK (nn d : Nat) (kd : Int) : Int := if (1 + kd % 9 = 9 ∧ nn = 0) ∨ (d ≤ 1 ∧ 4 ≤ 1 + kd % 9 ∧ 1 + kd % 9 ≤ 8) then 2 else 1 + kd % 9
def fldN (ns : List Int) (i : Nat) : List UInt8 := match ns[i]? with | some z => nameL z | none => [117]
def fldM (k : Int) (ns : List Int) : Nat := max (min ns.length 4) (if k = 8 then 1 else 0)
def treeR (names : List (List UInt8)) : Nat → Rw → Tz
  | 0, .mk kd n _ _ => if topK names.length 0 kd = 9 then .mk 9 (names.getD (n % names.length).toNat []) [] [] else .mk (topK names.length 0 kd) [] [] []
  | d + 1, .mk kd n ns ks =>
    if topK names.length (d + 1) kd = 9 then .mk 9 (names.getD (n % names.length).toNat []) [] []
    else if topK names.length (d + 1) kd = 4 ∨ topK names.length (d + 1) kd = 5 ∨ topK names.length (d + 1) kd = 6 then
      (if topK names.length (d + 1) kd = 6 ∧ (treeR names d (kidR (.mk kd n ns ks) 0)).kind = 6 then treeR names d (kidR (.mk kd n ns ks) 0) else .mk (topK names.length (d + 1) kd) [] [] [treeR names d (kidR (.mk kd n ns ks) 0)])
    else if topK names.length (d + 1) kd = 7 ∨ topK names.length (d + 1) kd = 8 then
      (List.range (fldM (topK names.length (d + 1) kd) ns)).foldl (fun t i => putT (fldN ns i) (treeR names d (kidR (.mk kd n ns ks) i)) t) (.mk (topK names.length (d + 1) kd) [] [] [])
    else .mk (topK names.length (d + 1) kd) [] [] []
theorem topK_rng (nn d : Nat) (kd : Int) : 1 ≤ topK nn d kd ∧ topK nn d kd ≤ 9 := by
  unfold topK; split <;> omega
/-- A plain kind. -/
theorem treeR_leaf (names : List (List UInt8)) (d : Nat) (kd n : Int) (ns : List Int) (ks : List Rw) (h : topK names.length d kd ≤ 3) : treeR names d (.mk kd n ns ks) = .mk (topK names.length d kd) [] [] [] := by
  cases d with
  | zero => rw [treeR, if_neg (by omega)]
  | succ d => rw [treeR, if_neg (by omega), if_neg (by omega), if_neg (by omega)]
theorem treeR_name (names : List (List UInt8)) (d : Nat) (kd n : Int) (ns : List Int) (ks : List Rw) (h : topK names.length d kd = 9) : treeR names d (.mk kd n ns ks) = .mk 9 (names.getD (n % names.length).toNat []) [] [] := by
  cases d with
  | zero => rw [treeR, if_pos h]
  | succ d => rw [treeR, if_pos h]
theorem treeR_kid (names : List (List UInt8)) (d : Nat) (kd n : Int) (ns : List Int) (ks : List Rw) (k : Int) (hk : topK names.length (d + 1) kd = k) (h : 4 ≤ k ∧ k ≤ 6) : treeR names (d + 1) (.mk kd n ns ks) = if k = 6 ∧ (treeR names d (kidR (.mk kd n ns ks) 0)).kind = 6 then treeR names d (kidR (.mk kd n ns ks) 0) else .mk k [] [] [treeR names d (kidR (.mk kd n ns ks) 0)] := by
  rw [treeR, hk, if_neg (by omega), if_pos (by omega)]
theorem treeR_rec (names : List (List UInt8)) (d : Nat) (kd n : Int) (ns : List Int) (ks : List Rw) (k : Int) (hk : topK names.length (d + 1) kd = k) (h : 7 ≤ k ∧ k ≤ 8) : treeR names (d + 1) (.mk kd n ns ks) = (List.range (fldM k ns)).foldl (fun t i => putT (fldN ns i) (treeR names d (kidR (.mk kd n ns ks) i)) t) (.mk k [] [] []) := by
  rw [treeR, hk, if_neg (by omega), if_neg (by omega), if_pos (by omega)]
/-- What a call of Tree leaves. -/
def TreeP (t : Tz) (w : World) (e : Ending) (w' : World) : Prop := ∃ c : C4, e = .returned (.agg #[.int .i64 c.k, .string c.n, .slice c.an c.ln c.cn, .slice c.ak c.lk c.ck]) ∧ TzV w' (New w.heap.size w') t c ∧ Below w.heap.size w w'
def TreeC (d : Nat) : Prop := ∀ (r : Rw) (c : R4) (names : List (List UInt8)) (na : Option Addr) (nc : Nat) (w : World), RwV w r c → RowV w (Any w) na 1 (names.map fun n => [str n]) → names.length ≤ 1000 →
  Calls Try.prog 22 #[.agg #[.int .i64 c.k, .int .i64 c.n, .slice c.an c.ln c.cn, .slice c.ak c.lk c.ck], .int .i64 d, .slice na names.length nc] w (TreeP (treeR names d r) w)
/-- Things of a block of their own. -/
theorem RowV.blkN {w : World} {S : Nat → Prop} {g k : Nat} {t : TypeId} {fr : Nat × Nat} {l : List (List Value)} {cs : Array Value} (h : w.heap[g]? = some (.cells cs t fr)) (hc : cs = l.flatten.toArray) (hk : ∀ x ∈ l, x.length = k) (hS : S g) : RowV w S (some ⟨g, 0, none⟩) k l := by
  refine .inr ⟨g, 0, rfl, hS, fun i hi j v hv => ?_⟩
  have := flat_at l hk i hi j v hv
  rw [Nat.zero_add]
  subst hc
  simp [World.cell?, h, this]
theorem TzV.kidN {w : World} {S : Nat → Prop} {g : Nat} {ty : TypeId} {fr : Nat × Nat} {t : Tz} {c : C4} (k : Int) (h : w.heap[g]? = some (.cells #[.int .i64 c.k, .string c.n, .slice c.an c.ln c.cn, .slice c.ak c.lk c.ck] ty fr)) (hS : S g) (hV : TzV w S t c) :
    TzV w S (.mk k [] [] [t]) ⟨k, ⟨#[]⟩, none, 0, 0, some ⟨g, 0, none⟩, 1, 1⟩ :=
  .mk k [] [] [t] none 0 (some ⟨g, 0, none⟩) 1 [c] rfl (.inl rfl) (RowV.blkN (l := [c].map C4.cells) h rfl (cells4_len [c]) hS) (fun i h h' => by
    match i, h with
    | 0, _ => exact hV)
theorem RowV.up {w W : World} {a : Option Addr} {sz : Nat} {l : List (List Value)} (h : RowV w (Any w) a sz l) (hb : Below w.heap.size w W) : RowV W (Any W) a sz l := h.keep (fun _ hg => Nat.lt_of_lt_of_le hg hb.size) (fun g hg => hb.block g hg)
/-- What a callee made stays while one older block is written. -/
theorem TzV.past {a b g0 : Nat} {w W : World} {t : Tz} {c : C4} (h : TzV w (New b w) t c) (hab : a ≤ b) (ho : Only g0 w W) (hg : g0 < b) : TzV W (New a W) t c :=
  h.keep (fun _ hs => ⟨Nat.le_trans hab hs.1, Nat.lt_of_lt_of_le hs.2 ho.size⟩) (fun _ hs => ho.block _ hs.2 (fun e => by cases e; omega))
theorem TzV.kindZ {w : World} {S : Nat → Prop} {t : Tz} {c : C4} (h : TzV w S t c) : c.k = t.kind := by cases h; rfl
/-- A record's, a union's fields: names and kids, as many of both. -/
def EvenT : Tz → Nat → Prop
  | .mk _ _ ns ks, m => ns.length = ks.length ∧ ns.length ≤ m
theorem putT_even {n : List UInt8} {x t : Tz} {m : Nat} (h : EvenT t m) : EvenT (putT n x t) (m + 1) := by
  obtain ⟨k, nm, ns, ks⟩ := t
  obtain ⟨h1, h2⟩ := h
  rw [putT]
  split
  · exact ⟨h1, by omega⟩
  · have := posT_le ns n
    exact ⟨by simp; omega, by simp; omega⟩
end Sp
end Go.Proofs.Ytjjpjkkaogfoaaa

namespace Go.Proofs.Ytjjpjkkaogfoaaa
open Go.RowKit
namespace Sp
open Sc

theorem getD_setE {listed : Array Bool} {i : Nat} (h : i < listed.size) : (listed.setIfInBounds i true).getD i false = true := by rw [getD_setF]; simp [h]
theorem getD_setN {listed : Array Bool} {i j : Nat} (h : i ≠ j) : (listed.setIfInBounds i true).getD j false = listed.getD j false := by rw [getD_setF]; simp [h]
theorem TzV.since {a b : Nat} {w : World} {t : Tz} {c : C4} (h : TzV w (New b w) t c) (hab : a ≤ b) : TzV w (New a w) t c := h.keep (fun _ hg => ⟨Nat.le_trans hab hg.1, hg.2⟩) (fun _ _ => rfl)
/-- The fields put in so far. -/
def recT (names : List (List UInt8)) (d : Nat) (kd n : Int) (ns : List Int) (ks : List Rw) (K : Int) (i : Nat) : Tz :=
  (List.range i).foldl (fun t j => putT (fldN ns j) (treeR names d (kidR (.mk kd n ns ks) j)) t) (.mk K [] [] [])
theorem recT_zero (names : List (List UInt8)) (d : Nat) (kd n : Int) (ns : List Int) (ks : List Rw) (K : Int) : recT names d kd n ns ks K 0 = .mk K [] [] [] := rfl
theorem recT_succ (names : List (List UInt8)) (d : Nat) (kd n : Int) (ns : List Int) (ks : List Rw) (K : Int) (i : Nat) : recT names d kd n ns ks K (i + 1) = putT (fldN ns i) (treeR names d (kidR (.mk kd n ns ks) i)) (recT names d kd n ns ks K i) := by
  unfold recT; rw [List.range_succ, List.foldl_append]; rfl
theorem putT_form (n : List UInt8) (x : Tz) (K : Int) (ns : List (List UInt8)) (ks : List Tz) : ∃ ns' ks', putT n x (.mk K [] ns ks) = .mk K [] ns' ks' := by
  rw [putT]; split
  · exact ⟨_, _, rfl⟩
  · exact ⟨_, _, rfl⟩
theorem recT_form (names : List (List UInt8)) (d : Nat) (kd n : Int) (ns : List Int) (ks : List Rw) (K : Int) : ∀ i, ∃ ms us, recT names d kd n ns ks K i = .mk K [] ms us ∧ ms.length = us.length ∧ ms.length ≤ i
  | 0 => ⟨[], [], rfl, rfl, Nat.le_refl _⟩
  | i + 1 => by
    obtain ⟨ms, us, e, h1, h2⟩ := recT_form names d kd n ns ks K i
    have ev : EvenT (recT names d kd n ns ks K (i + 1)) (i + 1) := by
      rw [recT_succ, e]; exact putT_even ⟨h1, h2⟩
    obtain ⟨ms', us', e'⟩ := putT_form (fldN ns i) (treeR names d (kidR (.mk kd n ns ks) i)) K ms us
    rw [recT_succ, e, e'] at ev
    exact ⟨ms', us', by rw [recT_succ, e, e'], ev.1, ev.2⟩

theorem treeR_recT (names : List (List UInt8)) (d : Nat) (kd n : Int) (ns : List Int) (ks : List Rw) (k : Int) (hk : topK names.length (d + 1) kd = k) (h : 7 ≤ k ∧ k ≤ 8) : treeR names (d + 1) (.mk kd n ns ks) = recT names d kd n ns ks k (fldM k ns) := treeR_rec names d kd n ns ks k hk h
/-- What the operations of the statement yield. -/
structure TV (D d i : Nat) (tc : C4) (n : List UInt8) (rc : R4) (na : Option Addr) (nl nc : Nat) (vals : Nat → Value) : Prop where
  v0 : vals 0 = .agg #[.int .i64 tc.k, .string tc.n, .slice tc.an tc.ln tc.cn, .slice tc.ak tc.lk tc.ck]
  v1 : vals 1 = .string ⟨n.toArray⟩
  v2 : vals 2 = .agg #[.int .i64 rc.k, .int .i64 rc.n, .slice rc.an rc.ln rc.cn, .slice rc.ak rc.lk rc.ck]
  v3 : vals 3 = .int .i64 i
  v5 : vals 5 = .int .i64 D
  v6 : vals 6 = .int .i64 d
  v7 : vals 7 = .slice na nl nc
/-- Memory while the statement runs. -/
structure TM (w : World) (z : Nat) (tc : C4) (rc : R4) (t x t' : Tz) (kr : Rw) (vals : Nat → Value) (l4 l8 l9 l10 : Bool) (v : World) : Prop where
  size : z + 3 ≤ v.heap.size
  below : Below z w v
  raw : v.heap[z]? = some (.cells #[.int .i64 rc.k, .int .i64 rc.n, .slice rc.an rc.ln rc.cn, .slice rc.ak rc.lk rc.ck] 33 (0, 0))
  zer : v.heap[z + 1]? = some (.cells #[.int .i64 0, .string ⟨#[]⟩, .slice none 0 0, .slice none 0 0] 25 (0, 0))
  told : l10 = false → v.heap[z + 2]? = some (.cells #[.int .i64 tc.k, .string tc.n, .slice tc.an tc.ln tc.cn, .slice tc.ak tc.lk tc.ck] 25 (0, 0))
  old : l9 = false → TzV v (New (z + 3) v) t tc
  kid : l4 = true → l8 = false → ∃ c : R4, vals 4 = .agg #[.int .i64 c.k, .int .i64 c.n, .slice c.an c.ln c.cn, .slice c.ak c.lk c.ck] ∧ RwV v kr c
  tree : l8 = true → l9 = false → ∃ c : C4, vals 8 = .agg #[.int .i64 c.k, .string c.n, .slice c.an c.ln c.cn, .slice c.ak c.lk c.ck] ∧ TzV v (New (z + 3) v) x c
  put : l9 = true → ∃ c : C4, vals 9 = .agg #[.int .i64 c.k, .string c.n, .slice c.an c.ln c.cn, .slice c.ak c.lk c.ck] ∧ TzV v (New (z + 3) v) t' c ∧ CapOk c ∧ (l10 = true → v.heap[z + 2]? = some (.cells #[.int .i64 c.k, .string c.n, .slice c.an c.ln c.cn, .slice c.ak c.lk c.ck] 25 (0, 0)))
section
variable {w : World} {z : Nat} {tc : C4} {rc : R4} {t x t' : Tz} {kr : Rw} {vals vals' : Nat → Value} {l4 l8 l9 l10 : Bool} {v v' : World}
theorem TM.kidded (h : TM w z tc rc t x t' kr vals false false false false v) {c : R4} (hv : vals' 4 = .agg #[.int .i64 c.k, .int .i64 c.n, .slice c.an c.ln c.cn, .slice c.ak c.lk c.ck]) (hk : RwV v' kr c) (hb : Below v.heap.size v v') : TM w z tc rc t x t' kr vals' true false false false v' :=
  have hz := h.size
  ⟨Nat.le_trans hz hb.size, h.below.trans (hb.mono (by omega)), (hb.block _ (by omega)).trans h.raw, (hb.block _ (by omega)).trans h.zer, fun _ => (hb.block _ (by omega)).trans (h.told rfl), fun _ => (h.old rfl).growN hb, fun _ _ => ⟨c, hv, hk⟩, (fun h => by cases h), (fun h => by cases h)⟩
theorem TM.treed (h : TM w z tc rc t x t' kr vals true false false false v) {c : C4} (hv : vals' 8 = .agg #[.int .i64 c.k, .string c.n, .slice c.an c.ln c.cn, .slice c.ak c.lk c.ck]) (hk : TzV v' (New v.heap.size v') x c) (hb : Below v.heap.size v v') : TM w z tc rc t x t' kr vals' true true false false v' :=
  have hz := h.size
  ⟨Nat.le_trans hz hb.size, h.below.trans (hb.mono (by omega)), (hb.block _ (by omega)).trans h.raw, (hb.block _ (by omega)).trans h.zer, fun _ => (hb.block _ (by omega)).trans (h.told rfl), fun _ => (h.old rfl).growN hb, (fun _ h => by cases h), fun _ _ => ⟨c, hv, hk.since hz⟩, (fun h => by cases h)⟩
theorem TM.putted (h : TM w z tc rc t x t' kr vals true true false false v) {c : C4} (hv : vals' 9 = .agg #[.int .i64 c.k, .string c.n, .slice c.an c.ln c.cn, .slice c.ak c.lk c.ck]) (hk : TzV v' (New (z + 3) v') t' c) (hc : CapOk c) (hb : Below v.heap.size v v') : TM w z tc rc t x t' kr vals' true true true false v' :=
  have hz := h.size
  ⟨Nat.le_trans hz hb.size, h.below.trans (hb.mono (by omega)), (hb.block _ (by omega)).trans h.raw, (hb.block _ (by omega)).trans h.zer, fun _ => (hb.block _ (by omega)).trans (h.told rfl), (fun h => by cases h), (fun _ h => by cases h), (fun _ h => by cases h), fun _ => ⟨c, hv, hk, hc, (fun h => by cases h)⟩⟩
theorem TM.stored (h : TM w z tc rc t x t' kr vals true true true false v) {c : C4} (hv : vals 9 = .agg #[.int .i64 c.k, .string c.n, .slice c.an c.ln c.cn, .slice c.ak c.lk c.ck]) : TM w z tc rc t x t' kr vals true true true true (put4 v (z + 2) c) := by
  have hz := h.size
  have hp := put4_only v (z + 2) c
  have hs := put4_size v (z + 2) c
  obtain ⟨c', hv', hk, hc, _⟩ := h.put rfl
  have e : c' = c := by
    rw [hv] at hv'
    obtain ⟨a1, a2, a3, a4, a5, a6, a7, a8⟩ := c
    obtain ⟨b1, b2, b3, b4, b5, b6, b7, b8⟩ := c'
    simp at hv' ⊢
    obtain ⟨rfl, rfl, ⟨rfl, rfl, rfl⟩, rfl, rfl, rfl⟩ := hv'
    simp
  subst e
  exact ⟨by omega, h.below.trans (hp.below (by omega) (by omega)), hp.blk h.raw (by omega), hp.blk h.zer (by omega), (fun h => by cases h), (fun h => by cases h), (fun _ h => by cases h), (fun _ h => by cases h), fun _ => ⟨c', hv, hk.past (Nat.le_refl _) hp (by omega), hc, fun _ => put4_at (h.told rfl) c'⟩⟩
end
structure TJ (w : World) (z : Nat) (D d i : Nat) (tc : C4) (n : List UInt8) (rc : R4) (na : Option Addr) (nl nc : Nat) (t x t' : Tz) (kr : Rw) (ops : Array Oper) (a0 : Act) (listed : Array Bool) (b : Act) (v : World) : Prop where
  size : listed.size = ops.size
  closed : Closed ops listed
  rest : ∃ vals : Nat → Value, Fr ops a0 vals listed b ∧ TV D d i tc n rc na nl nc vals ∧ TM w z tc rc t x t' kr vals (listed.getD 4 false) (listed.getD 8 false) (listed.getD 9 false) (listed.getD 10 false) v
theorem TJ.quiet {w : World} {z : Nat} {D d i : Nat} {tc : C4} {n : List UInt8} {rc : R4} {na : Option Addr} {nl nc : Nat} {t x t' : Tz} {kr : Rw} {ops : Array Oper} {a0 b : Act} {listed : Array Bool} {v : World} {j : Nat} {o : Oper} {vals : Nat → Value} {Q : Exit → Act → World → Prop} (hz : listed.size = ops.size) (hC : Closed ops listed) (hi : j ∈ Region.ready .any ops listed) (hF : Fr ops a0 vals listed b) (hV : TV D d i tc n rc na nl nc vals)
    (hM : TM w z tc rc t x t' kr vals (listed.getD 4 false) (listed.getD 8 false) (listed.getD 9 false) (listed.getD 10 false) v)
    (hs : Slots ops a0.tmps.size) (ho : ops[j]? = some o) (hg : o.guard = none) (h9 : j ≠ 4 ∧ j ≠ 8 ∧ j ≠ 9 ∧ j ≠ 10) (hr : (execOp b.eval o).run Try.prog v = .ok (.value (vals j)) v) :
    wpOp Try.prog ops Q j (fun b' v' => TJ w z D d i tc n rc na nl nc t x t' kr ops a0 (listed.setIfInBounds j true) b' v') b v := by
  refine wpOp_run ho hg hr ⟨by simp [hz], hC.put hi, vals, hF.put hs hz ho, hV, ?_⟩
  simp only [getD_setF]
  simpa [h9.1, h9.2.1, h9.2.2.1, h9.2.2.2] using hM

/-- The loop over the fields. -/
structure TRel (w : World) (rc : R4) (names : List (List UInt8)) (d : Nat) (kd n : Int) (ns : List Int) (ks : List Rw) (K : Int) (iv : Value) (wr : World) (i : Nat) : Prop where
  slot : iv = .int .i64 i
  le : i ≤ fldM K ns
  size : w.heap.size + 3 ≤ wr.heap.size
  below : Below w.heap.size w wr
  raw : wr.heap[w.heap.size]? = some (.cells #[.int .i64 rc.k, .int .i64 rc.n, .slice rc.an rc.ln rc.cn, .slice rc.ak rc.lk rc.ck] 33 (0, 0))
  zer : wr.heap[w.heap.size + 1]? = some (.cells #[.int .i64 0, .string ⟨#[]⟩, .slice none 0 0, .slice none 0 0] 25 (0, 0))
  var : ∃ c : C4, wr.heap[w.heap.size + 2]? = some (.cells #[.int .i64 c.k, .string c.n, .slice c.an c.ln c.cn, .slice c.ak c.lk c.ck] 25 (0, 0)) ∧ TzV wr (New (w.heap.size + 3) wr) (recT names d kd n ns ks K i) c ∧ CapOk c
theorem TM.start {w wr : World} {z : Nat} {tc : C4} {rc : R4} {t x t' : Tz} {kr : Rw} {vals : Nat → Value} (hz : z + 3 ≤ wr.heap.size) (hb : Below z w wr)
    (h0 : wr.heap[z]? = some (.cells #[.int .i64 rc.k, .int .i64 rc.n, .slice rc.an rc.ln rc.cn, .slice rc.ak rc.lk rc.ck] 33 (0, 0)))
    (h1 : wr.heap[z + 1]? = some (.cells #[.int .i64 0, .string ⟨#[]⟩, .slice none 0 0, .slice none 0 0] 25 (0, 0)))
    (h2 : wr.heap[z + 2]? = some (.cells #[.int .i64 tc.k, .string tc.n, .slice tc.an tc.ln tc.cn, .slice tc.ak tc.lk tc.ck] 25 (0, 0))) (hV : TzV wr (New (z + 3) wr) t tc) : TM w z tc rc t x t' kr vals false false false false wr.drew :=
  ⟨hz, ⟨hb.os, hb.tape, hb.output, hb.size, hb.block⟩, h0, h1, fun _ => h2, fun _ => hV.keep (fun _ h => h) (fun _ _ => rfl), (fun h => by cases h), (fun h => by cases h), (fun h => by cases h)⟩
theorem int_name {w : World} {a : Option Addr} {ns : List Int} (h : RowV w (Any w) a 1 (ns.map fun i => [.int .i64 i])) (j : Nat) (hj : j < ns.length) :
    ∃ g o, a = some ⟨g, o, none⟩ ∧ g < w.heap.size ∧ ∀ W, Below w.heap.size w W → W.cell? ⟨g, o + j, none⟩ = some (.int .i64 ns[j]) := by
  obtain ⟨g, o, e, hg, hc⟩ := row_at h (fun _ h => h) j (by rw [List.length_map]; exact hj)
  refine ⟨g, o, e, hg, fun W hW => ?_⟩
  have := hc W hW 0 (.int .i64 ns[j]) (by rw [List.getElem_map]; rfl)
  rw [show o + j = o + j * 1 + 0 by omega]
  exact this
end Sp
end Go.Proofs.Ytjjpjkkaogfoaaa
