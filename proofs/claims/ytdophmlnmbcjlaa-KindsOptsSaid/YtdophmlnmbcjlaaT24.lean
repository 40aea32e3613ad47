/- ShapeBounds' walk: named types. -/
import Derived.Test.YtdophmlnmbcjlaaT17
import Derived.Test.YtdophmlnmbcjlaaT22
import Derived.Test.YtdophmlnmbcjlaaT23
namespace Go.Proofs.Ytdophmlnmbcjlaa
open Go.RowKit
namespace Sp
open Sc
def letB (k : Nat) : UInt8 := UInt8.ofNat (97 + k)
end Sp
end Go.Proofs.Ytdophmlnmbcjlaa
namespace Go.Proofs.Ytdophmlnmbcjlaa
open Go.RowKit
namespace Sp
/-- Two rows lie apart. -/
def ApartV (y z : Value) : Prop := ∀ g, y.ownBlock = some g → z.ownBlock ≠ some g
theorem ApartV.symm {y z : Value} (h : ApartV y z) : ApartV z y := fun g h1 h2 => h g h2 h1
theorem ApartV.app {x y z : Value} {m : Nat} (h : ApartV x z) (hf : ∀ g, y.ownBlock = some g → x.ownBlock = some g ∨ m ≤ g) (hz : ∀ g, z.ownBlock = some g → g < m) : ApartV y z := fun g h1 h2 => by
  rcases hf g h1 with e | e
  · exact h g e h2
  · have := hz g h2; omega
end Sp
end Go.Proofs.Ytdophmlnmbcjlaa
namespace Go.Proofs.Ytdophmlnmbcjlaa
open Go.RowKit
namespace Sp
open Sc
theorem set_four2 {w : World} {b : Nat} {t : TypeId} {v0 v1 v2 v3 : Value} (h : w.heap[b]? = some (.cells #[v0, v1, v2, v3] t (0, 0))) (v : Value) : (w.setCell ⟨b, 2, none⟩ v).heap[b]? = some (.cells #[v0, v1, v, v3] t (0, 0)) := by
  unfold World.setCell; simp [Array.getElem?_modify, h]
theorem set_four3 {w : World} {b : Nat} {t : TypeId} {v0 v1 v2 v3 : Value} (h : w.heap[b]? = some (.cells #[v0, v1, v2, v3] t (0, 0))) (v : Value) : (w.setCell ⟨b, 3, none⟩ v).heap[b]? = some (.cells #[v0, v1, v2, v] t (0, 0)) := by
  unfold World.setCell; simp [Array.getElem?_modify, h]
theorem rep_getD (n i : Nat) : (Array.replicate n false).getD i false = false := by
  rw [Array.getD_eq_getD_getElem?]
  by_cases hi : i < n <;> simp [hi]
end Sp
end Go.Proofs.Ytdophmlnmbcjlaa
namespace Go.Proofs.Ytdophmlnmbcjlaa
open Go.RowKit
namespace Sp
open Sc
set_option maxRecDepth 100000
/-- A block of one byte, the statement's own. -/
def Lit (W0 : World) (z : Int) (x : Value) (v : World) : Prop := ∃ g, x = .slice (some ⟨g, 0, none⟩) 1 1 ∧ W0.heap.size ≤ g ∧ g < v.heap.size ∧ v.heap[g]? = some (.cells #[.int .u8 z] 5 (0, 0))
theorem Only.grown {rb : Nat} {w0 v v' : World} {r : Option Nat} (h : Only rb w0 v) (hg : v.grownBy v' r) (hr : ∀ g, r = some g → g = rb ∨ w0.heap.size ≤ g) : Only rb w0 v' :=
  ⟨hg.os.trans h.os, hg.tape.trans h.tape, hg.output.trans h.output, Nat.le_trans h.size hg.size, fun k hk hn => (hg.block k (Nat.lt_of_lt_of_le hk h.size) (fun e => (hr k e.symm).elim (fun e => hn (by rw [e])) (fun e => by omega))).trans (h.block k hk hn)⟩
theorem own_ne {x v : Value} (h : ApartV x v) : x.ownBlock = none ∨ x.ownBlock ≠ v.ownBlock := by
  cases hx : x.ownBlock with
  | none => exact .inl rfl
  | some g => exact .inr fun e => h g hx e.symm
theorem own_nb {x : Value} {b : Nat} (h : ∀ g, x.ownBlock = some g → g ≠ b) : x.ownBlock = none ∨ x.ownBlock ≠ some b := by
  cases hx : x.ownBlock with
  | none => exact .inl rfl
  | some _ => exact .inr fun e => h _ hx (by cases e; rfl)
end Sp
end Go.Proofs.Ytdophmlnmbcjlaa
namespace Go.Proofs.Ytdophmlnmbcjlaa
open Go.RowKit
namespace Sp
open Sc
/-- Where a name belongs. -/
def posT (ns : List (List UInt8)) (n : List UInt8) : Nat := (ns.takeWhile fun x => Op.bytesLess x n).length
def putT (n : List UInt8) (x : Tz) : Tz → Tz
  | .mk k nm ns ks => if ns[posT ns n]? = some n then .mk k nm ns ks else .mk k nm (ns.take (posT ns n) ++ [n] ++ ns.drop (posT ns n)) (ks.take (posT ns n) ++ [x] ++ ks.drop (posT ns n))
theorem posT_le (ns : List (List UInt8)) (n : List UInt8) : posT ns n ≤ ns.length := (List.takeWhile_sublist _).length_le
theorem posT_is {n : List UInt8} : ∀ {ns : List (List UInt8)} {k : Nat}, k ≤ ns.length → (∀ i (h : i < ns.length), i < k → Op.bytesLess ns[i] n = true) → (∀ h : k < ns.length, Op.bytesLess ns[k] n = false) → posT ns n = k
  | [], k, h1, _, _ => by
    obtain rfl : k = 0 := by simpa using h1
    rfl
  | a :: ns, 0, _, _, h3 => by
    have := h3 (by simp)
    simp only [List.getElem_cons_zero] at this
    simp [posT, List.takeWhile, this]
  | a :: ns, k + 1, h1, h2, h3 => by
    have h0 := h2 0 (by simp) (by omega)
    simp only [List.getElem_cons_zero] at h0
    have ih := posT_is (ns := ns) (k := k) (by simpa using h1) (fun i h hk => by have := h2 (i + 1) (by simpa using h) (by omega); simpa using this) (fun h => by have := h3 (by simpa using h); simpa using this)
    simp only [posT, List.takeWhile, h0] at ih ⊢
    simp [ih]
/-- What a slice yields to an append. -/
def SrcV (w : World) (sv : Value) (m : Nat) (news : List Value) : Prop :=
  (∃ c, sv = .slice none 0 c ∧ m = 0 ∧ news = []) ∨ ∃ ad c, sv = .slice (some ad) m c ∧ ∀ j u, news[j]? = some u → w.cell? (ad.add j) = some u
theorem append_noneC {P : Program} (w : World) (base : Nat) (t ty e : TypeId) (i : TypeInfo) (size c : Nat) (ht : P.underlying t = some (.slice e)) (hi : P.info? e = some i)
    (v : Value) (n : Nat) (xs : List Value) (hown : w.ownsRow base e size v n xs) : (Builtin.append_ #[t, t] ty #[v, .slice none 0 c]).run P w = .ok v w := by
  rcases hown.2 with ⟨rfl, rfl⟩ | ⟨g, cap, cur, rfl, _, _, hnc, _⟩
  · simp [Builtin.append_, run_underlying ht, sizeOf, typeInfo, hi, Builtin.lenOf, Builtin.firstCells]
  · simp [Builtin.append_, run_underlying ht, sizeOf, typeInfo, hi, Builtin.lenOf, Builtin.firstCells, hnc, storeCells]
theorem run_append_srcV {P : Program} (w : World) (base : Nat) (t ty e : TypeId) (i : TypeInfo) (z : Value) (size bytes : Nat) (ht : P.underlying t = some (.slice e)) (hi : P.info? e = some i) (hz : i.zero = some z)
    (hsize : i.size = size) (hby : i.bytes = bytes) (hzs : z.cells.size = size) (hsz : 0 < size)
    (v : Value) (n : Nat) (xs : List Value) (hown : w.ownsRow base e size v n xs)
    (sv : Value) (m : Nat) (news : List Value) (hl : news.length = m * size) (hnews : SrcV w sv m news) (h1 : ∀ u ∈ news, u.oneCell' = true)
    (h63 : n + m ≤ maxLen) (hbytes : (n + m) * bytes ≤ 140737488355328) (hbase : base ≤ w.heap.size) :
    ∃ v' w', (Builtin.append_ #[t, t] ty #[v, sv]).run P w = .ok v' w' ∧ w'.ownsRow base e size v' (n + m) (xs ++ news) ∧ w.grownBy w' v.ownBlock ∧
      ∀ k, v'.ownBlock = some k → v.ownBlock = some k ∨ w.heap.size ≤ k := by
  rcases hnews with ⟨c, rfl, rfl, rfl⟩ | ⟨ad, c, rfl, hc⟩
  · exact ⟨v, w, append_noneC w base t ty e i size c ht hi v n xs hown, by simpa using hown, ⟨rfl, rfl, rfl, Nat.le_refl _, fun _ _ _ => rfl⟩, fun k hk => .inl hk⟩
  · exact Sh.run_append_fresh (P := P) w base t ty e i z size bytes ht hi hz hsize hby hzs hsz v n xs hown ad m c news hl hc h1 h63 hbytes hbase
theorem wp_append_srcV {P : Program} {o : Oper} {a : Act} {w : World} {K : Act → World → Prop} {Q : Exit → Act → World → Prop} (s x : Operand) (t : TypeId)
    (ho : o.op = .call { callee := .builtin .append, args := #[s, x], argTypes := #[t, t] })
    (base : Nat) (e : TypeId) (i : TypeInfo) (z : Value) (size bytes : Nat) (ht : P.underlying t = some (.slice e)) (hi : P.info? e = some i) (hz : i.zero = some z)
    (hsize : i.size = size) (hby : i.bytes = bytes) (hzs : z.cells.size = size) (hsz : 0 < size)
    (v : Value) (n : Nat) (xs : List Value) (hs : a.eval s = v) (hown : w.ownsRow base e size v n xs)
    (sv : Value) (m : Nat) (news : List Value) (hx : a.eval x = sv) (hl : news.length = m * size) (hnews : SrcV w sv m news) (h1 : ∀ u ∈ news, u.oneCell' = true)
    (h63 : n + m ≤ maxLen) (hbytes : (n + m) * bytes ≤ 140737488355328) (hbase : base ≤ w.heap.size)
    (h : ∀ v' w', w'.ownsRow base e size v' (n + m) (xs ++ news) → w.grownBy w' v.ownBlock → (∀ k, v'.ownBlock = some k → v.ownBlock = some k ∨ w.heap.size ≤ k) → K (a.put o.dst v') w') : o.wp P a w K Q := by
  obtain ⟨v', w', hr, h2, h3, h4⟩ := run_append_srcV (P := P) w base t o.type e i z size bytes ht hi hz hsize hby hzs hsz v n xs hown sv m news hl hnews h1 h63 hbytes hbase
  have hgo := h v' w' h2 h3 h4
  simp only [Oper.wp, execOp, ho, resolve, invoke, builtin, Sem.run_bind, Sem.run_pure, Result.andThen_ok, List.map_toArray, List.map_cons, List.map_nil, hs, hx, hr]
  exact hgo
theorem wpList_append_srcV {P : Program} {ops : Array Oper} {rest : List Oper} {o : Oper} {a : Act} {w : World} {Q : Exit → Act → World → Prop} (hgd : o.guard = none) (s x : Operand) (t : TypeId)
    (ho : o.op = .call { callee := .builtin .append, args := #[s, x], argTypes := #[t, t] })
    (base : Nat) (e : TypeId) (i : TypeInfo) (z : Value) (size bytes : Nat) (ht : P.underlying t = some (.slice e)) (hi : P.info? e = some i) (hz : i.zero = some z)
    (hsize : i.size = size) (hby : i.bytes = bytes) (hzs : z.cells.size = size) (hsz : 0 < size)
    (v : Value) (n : Nat) (xs : List Value) (hs : a.eval s = v) (hown : w.ownsRow base e size v n xs)
    (sv : Value) (m : Nat) (news : List Value) (hx : a.eval x = sv) (hl : news.length = m * size) (hnews : SrcV w sv m news) (h1 : ∀ u ∈ news, u.oneCell' = true)
    (h63 : n + m ≤ maxLen) (hbytes : (n + m) * bytes ≤ 140737488355328) (hbase : base ≤ w.heap.size)
    (h : ∀ v' w', w'.ownsRow base e size v' (n + m) (xs ++ news) → w.grownBy w' v.ownBlock → (∀ k, v'.ownBlock = some k → v.ownBlock = some k ∨ w.heap.size ≤ k) → wpList P ops Q rest (a.put o.dst v') w') : wpList P ops Q (o :: rest) a w :=
  wpList_plain hgd fun _ hK => wp_append_srcV s x t ho base e i z size bytes ht hi hz hsize hby hzs hsz v n xs hs hown sv m news hx hl hnews h1 h63 hbytes hbase fun v' w' h2 h3 h4 => hK _ _ (h v' w' h2 h3 h4)
theorem flat_inv {k : Nat} (hk : 0 < k) : ∀ {l : List (List Value)}, (∀ x ∈ l, x.length = k) → ∀ {j : Nat} {u : Value}, l.flatten[j]? = some u → ∃ i r, ∃ h : i < l.length, j = i * k + r ∧ (l[i])[r]? = some u
  | [], _, j, u, h => by simp at h
  | x :: l, hl, j, u, h => by
    have hx : x.length = k := hl x List.mem_cons_self
    rw [List.flatten_cons] at h
    by_cases hj : j < k
    · rw [List.getElem?_append_left (by omega)] at h
      exact ⟨0, j, by simp, by omega, h⟩
    · rw [List.getElem?_append_right (by omega)] at h
      obtain ⟨i, r, hi, e, hu⟩ := flat_inv hk (fun y hy => hl y (List.mem_cons_of_mem _ hy)) h
      exact ⟨i + 1, r, by simpa using hi, by rw [Nat.succ_mul]; omega, by simpa using hu⟩
/-- A piece of a row, from k on, m of them. -/
theorem RowV.piece {w : World} {S : Nat → Prop} {g o sz : Nat} {l : List (List Value)} (h : RowV w S (some ⟨g, o, none⟩) sz l) (hs : 0 < sz) (hl : ∀ x ∈ l, x.length = sz) (k m c : Nat) : SrcV w (.slice (some ⟨g, o + k * sz, none⟩) m c) m ((l.drop k).take m).flatten := by
  refine .inr ⟨_, c, rfl, fun j u hu => ?_⟩
  have hl' : ∀ x ∈ (l.drop k).take m, x.length = sz := fun x hx => hl x (List.mem_of_mem_drop (List.mem_of_mem_take hx))
  obtain ⟨i, r, hi, e, hv⟩ := flat_inv hs hl' hu
  simp only [List.length_take, List.length_drop] at hi
  rw [List.getElem_take, List.getElem_drop] at hv
  rcases h with h | ⟨g', o', e', _, hc⟩
  · rw [h] at hi; simp at hi
  · cases e'
    have := hc (k + i) (by omega) r u hv
    rw [Addr.add_lit, e, show o + k * sz + (i * sz + r) = o + (k + i) * sz + r by rw [Nat.add_mul]; omega]
    exact this
end Sp
end Go.Proofs.Ytdophmlnmbcjlaa
