/- known and within of chapter 6's laws; a table whose names lead somewhere, by a test. -/
import Derived.Test.YtdophmlnmbcjlaaT45
import Derived.Test.YtdophmlnmbcjlaaT43
import Derived.Test.YtdophmlnmbcjlaaT17
import Derived.Test.YtdophmlnmbcjlaaT39
import Derived.Test.YtdophmlnmbcjlaaT40
namespace Go.Proofs.Ytdophmlnmbcjlaa
open Go.RowKit
namespace Sp
open Sc
set_option maxRecDepth 100000
def opB (T : List Kz) (N : List NN) : Bool :=
  (List.range T.length).all (fun i => decide (openK T N 13 i < T.length) && decide ((T.getD (openK T N 13 i) default).kind ≠ 9)) &&
    T.all (fun k => (decide (k.kind ≠ 9) || decide (lookN N k.name < T.length)) && (decide (k.kind ≠ 4 ∧ k.kind ≠ 5 ∧ k.kind ≠ 6) || decide (k.kids.length = 1)))
theorem opB_is {T : List Kz} {N : List NN} (h : opB T N = true) : OpL T N := by
  unfold opB at h
  rw [Bool.and_eq_true, List.all_eq_true, List.all_eq_true] at h
  obtain ⟨h1, h2⟩ := h
  refine ⟨fun i hi => ?_, fun i hi => ?_, fun k hk h9 => ?_, fun k hk h4 => ?_⟩
  · have := h1 i (List.mem_range.2 hi)
    rw [Bool.and_eq_true, decide_eq_true_eq] at this
    exact this.1
  · have := h1 i (List.mem_range.2 hi)
    rw [Bool.and_eq_true, decide_eq_true_eq, decide_eq_true_eq] at this
    exact this.2
  · have := h2 k hk
    simp only [Bool.and_eq_true, Bool.or_eq_true, decide_eq_true_eq] at this
    rcases this.1 with h | h
    · exact absurd h9 h
    · exact h
  · have := h2 k hk
    simp only [Bool.and_eq_true, Bool.or_eq_true, decide_eq_true_eq] at this
    rcases this.2 with h | h
    · omega
    · exact h
theorem StV.main {B : Nat} {w : World} {tb rb nb mb sb m : Nat} {ty nu : Value} {T : List Kz} {N : List NN} {G : List GN} {vs : List Value} (h : StV B w tb rb nb mb sb m ty nu T N G vs) :
    Calls Try.prog 17 #[.pointer (some ⟨tb, 0, none⟩)] w fun e w' => e = .returned (.int .i64 (m : Nat)) ∧ Below w.heap.size w w' := main_any w tb rb nb mb sb m ty nu T h.tab
/-- New, of a schema that is written out. -/
theorem new_at {w : World} {args : Array Value} (s : Sz) {c : C4} {a1 a2 : Option Addr} {us : List (List UInt8 × C4)} {gs : List (List UInt8 × G6)} (c1 c2 : Nat) (hV : SzV w (Any w) s c a1 us a2 gs)
    (ha : args = #[.agg #[.int .i64 c.k, .string c.n, .slice c.an c.ln c.cn, .slice c.ak c.lk c.ck, .slice a1 s.types.length c1, .slice a2 s.sigs.length c2]]) (hf : fitS s = true) (hsh : ShortS s) (hl : s.types.length ≤ 1000000 ∧ s.sigs.length ≤ 1000000) {tab : Tab} (hn : newK s = (0, tab)) :
    Calls Try.prog 10 args w fun e w' => ∃ tb rb nb mb sb ty nu vs, e = .returned (.tuple #[.pointer (some ⟨tb, 0, none⟩), .int .i64 0]) ∧ StV w.heap.size w' tb rb nb mb sb tab.m ty nu tab.T tab.N tab.G vs ∧ Below w.heap.size w w' := by
  subst ha
  refine (New_any s c a1 a2 us gs c1 c2 w (Any w) (fun _ h => h) hV (SzFit.of hf) hsh hl.1 hl.2).mono ?_
  rintro e w' ⟨⟨h1, -⟩, hb⟩
  rw [hn] at h1
  obtain ⟨tb, rb, nb, mb, sb, ty, nu, vs, rfl, hst⟩ := h1 rfl
  exact ⟨tb, rb, nb, mb, sb, ty, nu, vs, rfl, hst, hb⟩
theorem made {w W : World} {l : List Obj} (h : W = allocs w l) : ∀ (i : Nat) (o : Obj), l[i]? = some o → W.heap[w.heap.size + i]? = some o := fun i o ho => by
  obtain ⟨hi, rfl⟩ := List.getElem?_eq_some_iff.1 ho
  rw [h]; exact allocs_at l w i hi
def a6 : Tz := .mk 7 [] [[97], [98]] [zI, zI]
def b6 : Tz := .mk 7 [] [[97]] [.mk 6 [] [] [zI]]
def s6 : Sz := ⟨a6, [], []⟩
def t6 : Tab := (newK s6).2
def k6 : Nat × Nat × List Kz := addK (hasZ t6.N) t6.T b6
end Sp
end Go.Proofs.Ytdophmlnmbcjlaa
namespace Go.Proofs.Ytdophmlnmbcjlaa
open Go.RowKit
namespace Sp
open Sc
set_option maxRecDepth 100000
/-- Which row of the chapter's table a builtin function has: 0 and, or; 1 not; 2 what asks for two numbers; 3 conversions; 4 eq; 5 cat; 6 text; 7 len; 8 at; 9 get; 10 has; 11 orelse. -/
def clsJ (nm : List UInt8) : Nat :=
  if [[97, 110, 100], [111, 114]].contains nm then 0 else if nm == [110, 111, 116] then 1
  else if [[108, 116], [97, 100, 100], [115, 117, 98], [109, 117, 108], [115, 104, 108], [115, 104, 114]].contains nm then 2
  else if [[105, 56], [105, 49, 54], [105, 51, 50], [117, 56], [117, 49, 54], [117, 51, 50]].contains nm then 3
  else if nm == [101, 113] then 4 else if nm == [99, 97, 116] then 5 else if nm == [116, 101, 120, 116] then 6 else if nm == [108, 101, 110] then 7
  else if nm == [97, 116] then 8 else if nm == [103, 101, 116] then 9 else if nm == [104, 97, 115] then 10 else 11
/-- How many arguments it takes. -/
def takesJ (nm : List UInt8) : Nat := if [1, 3, 6, 7, 10].contains (clsJ nm) then 1 else 2
/-- A type of the table, opened. -/
def opnK (T : List Kz) (N : List NN) (i : Nat) : Kz := T.getD (openK T N 13 i) default
/-- What is of no kind. -/
def nod0 : Kz := ⟨0, [], [], []⟩
/-- Whether it takes what is given: the second number, both opened. -/
def fitsJ (c : Nat) (T : List Kz) (N : List NN) (y : Nat) (a b : Kz) : Bool :=
  match c with
  | 0 => decide (a.kind = 1) && decide (b.kind = 1)
  | 1 => decide (a.kind = 1)
  | 2 => decide (a.kind = 2) && decide (b.kind = 2)
  | 3 => decide (a.kind = 2)
  | 4 => decide (a.kind = b.kind) && (decide (a.kind = 1) || (decide (a.kind = 2) || decide (a.kind = 3)))
  | 5 => decide (a.kind = 3) && decide (b.kind = 3)
  | 6 => decide (a.kind = 2) || decide (a.kind = 1)
  | 7 => decide (a.kind = 3) || (decide (a.kind = 4) || decide (a.kind = 5))
  | 8 => decide (a.kind = 4) && decide (b.kind = 2)
  | 9 => decide (a.kind = 5) && (decide (b.kind = 3) && !decide ((opnK T N (a.kids.getD 0 0)).kind = 6))
  | 10 => decide (a.kind = 6)
  | _ => decide (a.kind = 6) && decide (y = a.kids.getD 0 0)
/-- What it answers. -/
def ansJ (nm : List UInt8) (T : List Kz) (a : Kz) : Nat × Nat × List Kz :=
  if clsJ nm = 8 ∨ clsJ nm = 11 then (a.kids.getD 0 0, 0, T) else if clsJ nm = 9 then numK T (optK (a.kids.getD 0 0))
  else if [0, 1, 4, 10].contains (clsJ nm) || nm == [108, 116] then numK T (baseK 1) else if [5, 6].contains (clsJ nm) then numK T (baseK 3) else numK T (baseK 2)
/-- What a builtin function answers. -/
def ofJ (T : List Kz) (N : List NN) (nm : List UInt8) (l : List Nat) : Nat × Nat × List Kz :=
  if l.length ≠ takesJ nm then (0, 18, T) else
    if fitsJ (clsJ nm) T N (l.getD 1 0) (opnK T N (l.getD 0 0)) (if 1 < l.length then opnK T N (l.getD 1 0) else nod0) then ansJ nm T (opnK T N (l.getD 0 0)) else (0, 17, T)
theorem opnK_at {T : List Kz} {N : List NN} (hO : OpL T N) {i : Nat} (hi : i < T.length) : opnK T N i = T[openK T N 13 i]'(hO.lt i hi) := getD_at (hO.lt i hi)
/-- Numbers of types, in memory. -/
def idsL (l : List Nat) : List (List Value) := l.map fun (j : Nat) => [Value.int .i64 (j : Nat)]
theorem idsL_cell {w : World} {S : Nat → Prop} {a : Option Addr} {l : List Nat} (h : RowV w S a 1 (idsL l)) {i : Nat} (hi : i < l.length) : ∃ g o, a = some ⟨g, o, none⟩ ∧ S g ∧ w.cell? ⟨g, o + i, none⟩ = some (.int .i64 (l.getD i 0 : Nat)) := by
  rcases h with h | ⟨g, o, ha, hg, hc⟩
  · rw [List.map_eq_nil_iff.1 h] at hi; cases hi
  · refine ⟨g, o, ha, hg, ?_⟩
    have := hc i (by simpa [idsL] using hi) 0 (.int .i64 (l.getD i 0 : Nat)) (by simp [idsL, hi])
    rw [Nat.mul_one, Nat.add_zero] at this
    exact this
end Sp
end Go.Proofs.Ytdophmlnmbcjlaa
namespace Go.Proofs.Ytdophmlnmbcjlaa
open Go.RowKit
namespace Sp
open Sc
set_option maxRecDepth 100000
/-- A base type more. -/
theorem base_pure {has : List UInt8 → Bool} {T : List Kz} (hT : TabG has 400 T) (k : Int) (h1 : 1 ≤ k) (h3 : k ≤ 3) : ((numK T (baseK k)).2.1 = 0 ∨ (numK T (baseK k)).2.1 = 20) ∧ TabG has 400 (numK T (baseK k)).2.2 ∧ T <+: (numK T (baseK k)).2.2 ∧
    ((numK T (baseK k)).2.1 = 0 → ∃ h : (numK T (baseK k)).1 < (numK T (baseK k)).2.2.length, ((numK T (baseK k)).2.2[(numK T (baseK k)).1]).kind = k ∧ numK (numK T (baseK k)).2.2 (baseK k) = ((numK T (baseK k)).1, 0, (numK T (baseK k)).2.2)) ∧ ((numK T (baseK k)).2.1 = 20 → numK (numK T (baseK k)).2.2 (baseK k) = (0, 20, (numK T (baseK k)).2.2) ∧ (numK T (baseK k)).1 = 0 ∧ 0 < (numK T (baseK k)).2.2.length) := by
  have hok : okK has (.mk k [] [] []) = true ∧ sizeZ (.mk k [] [] []) ≤ 400 := by
    refine ⟨?_, by simp [sizeZ, sizeZs]⟩
    have : ownC has k [] [] 0 = 0 := by
      unfold ownC
      rw [if_neg (by omega), if_neg (by omega)]
      have hf : formB k [] [] 0 = true := by unfold formB kidsN; simp; omega
      rw [if_neg (by rw [hf]; decide), if_neg (by omega)]
    rw [okK]
    simp [this, okKs]
  have e : treeK T (.mk k [] [] []) = numK T (baseK k) := by rw [treeK, kidsK]; rfl
  obtain ⟨a1, a2, a3, -⟩ := addK_g hT hok
  rw [a1, e] at a2 a3
  refine ⟨numK_e _ _, a2, a3, fun h0 => ?_, fun h20 => ?_⟩
  · obtain ⟨⟨i, x, T'⟩, hq⟩ : ∃ q, numK T (baseK k) = q := ⟨_, rfl⟩
    rw [hq] at h0 a2 ⊢
    dsimp only at h0 a2 ⊢
    subst h0
    obtain ⟨c1, c2, -⟩ := numK_ok hq
    obtain ⟨d1, d2⟩ := get_idx c1
    subst c2
    exact ⟨d1, by rw [d2]; rfl, numK_there c1⟩
  · unfold numK at h20 ⊢
    by_cases hm : baseK k ∈ T
    · rw [if_pos hm] at h20; cases h20
    · by_cases hl : 120 ≤ T.length
      · rw [if_neg hm, if_pos hl]
        dsimp only
        rw [if_neg hm, if_pos hl]
        exact ⟨rfl, rfl, by omega⟩
      · rw [if_neg hm, if_neg hl] at h20; cases h20
end Sp
end Go.Proofs.Ytdophmlnmbcjlaa
namespace Go.Proofs.Ytdophmlnmbcjlaa
open Go.RowKit
namespace Sp
open Sc
theorem trees_pure {has : List UInt8 → Bool} {T : List Kz} (hT : TabG has 400 T) {i : Nat} (hi : i < T.length) : addK has T (typT T i) = (i, 0, T) := by
  obtain ⟨a, b⟩ := hT.ok i hi
  rw [(addK_g hT ⟨a, b⟩).1]
  exact typT_again hT.toTabW (i + 1) i (Nat.lt_succ_self _) hi
end Sp
end Go.Proofs.Ytdophmlnmbcjlaa
namespace Go.Proofs.Ytdophmlnmbcjlaa
open Go.RowKit
namespace Sp
open Sc
/-- Kids have lesser numbers; as many as their kind asks; no names. -/
structure NiceT (T : List Kz) : Prop where
  kids : ∀ i (h : i < T.length), ∀ j ∈ T[i].kids, j < i
  one : ∀ k ∈ T, k.kind = 4 ∨ k.kind = 5 ∨ k.kind = 6 → k.kids.length = 1
  named : ∀ k ∈ T, k.kind = 7 ∨ k.kind = 8 → k.names.length = k.kids.length
  k9 : ∀ k ∈ T, k.kind ≠ 9
theorem getD_atK {T : List Kz} {i : Nat} (h : i < T.length) : T.getD i default = T[i] := by rw [List.getD, List.getElem?_eq_getElem h]; rfl
section
variable {T : List Kz}
theorem open_id (hT : NiceT T) {i : Nat} (hi : i < T.length) : openK T [] 13 i = i := openK_stop T [] 13 i (by rw [getD_atK hi]; exact hT.k9 _ (List.getElem_mem hi))
end
theorem form_one {k : Int} {nm : List UInt8} {ns : List (List UInt8)} {n : Nat} (h : formB k nm ns n = true) : (k = 4 ∨ k = 5 ∨ k = 6 → n = 1) ∧ (k = 7 ∨ k = 8 → ns.length = n) := by
  unfold formB kidsN at h
  simp only [Bool.and_eq_true, decide_eq_true_eq] at h
  obtain ⟨⟨h1, _⟩, _⟩ := h
  refine ⟨fun h4 => ?_, fun h7 => ?_⟩
  · rw [if_pos h4] at h1; exact h1
  · rw [if_neg (by omega), if_pos h7] at h1; exact h1.symm
theorem ok_form {has : List UInt8 → Bool} {k : Int} {nm : List UInt8} {ns : List (List UInt8)} {ks : List Tz} (h : okK has (.mk k nm ns ks) = true) : formB k nm ns ks.length = true ∧ (k = 9 → has nm = true) := by
  rw [okK, Bool.and_eq_true, decide_eq_true_eq] at h
  have h1 := h.1
  unfold ownC at h1
  split at h1
  · cases h1
  · split at h1
    · cases h1
    · split at h1
      · cases h1
      · rename_i c3
        split at h1
        · cases h1
        · rename_i c4
          refine ⟨by simpa using c3, fun e => ?_⟩
          cases hh : has nm with
          | true => rfl
          | false => exact absurd ⟨e, hh⟩ c4
theorem nice_of {T : List Kz} (hT : TabG (hasZ ([] : List NN)) 400 T) : NiceT T := by
  have key : ∀ k ∈ T, formB k.kind k.name k.names k.kids.length = true ∧ k.kind ≠ 9 := fun k hk => by
    obtain ⟨i, hi, rfl⟩ := List.mem_iff_getElem.1 hk
    have h := (hT.ok i hi).1
    rw [typT_at hT.kids hi] at h
    obtain ⟨h1, h2⟩ := ok_form h
    rw [List.length_map] at h1
    exact ⟨h1, fun e => by have := h2 e; simp [hasZ] at this⟩
  exact ⟨hT.kids, fun k hk => (form_one (key k hk).1).1, fun k hk => (form_one (key k hk).1).2, fun k hk => (key k hk).2⟩
theorem nice_op {T : List Kz} (hT : TabG (hasZ ([] : List NN)) 400 T) : OpL T [] := by
  have h := nice_of hT
  exact ⟨fun i hi => by rw [open_id h hi]; exact hi, fun i hi => by rw [open_id h hi, getD_atK hi]; exact h.k9 _ (List.getElem_mem hi), fun k hk e => absurd e (h.k9 k hk), h.one⟩
theorem opt_one {T : List Kz} (hT : TabG (hasZ ([] : List NN)) 400 T) {j : Nat} (hj : j < T.length) (hs : sizeZ (typT T j) ≤ 399) :
    ∃ o e T', numK T (optK j) = (o, e, T') ∧ T <+: T' ∧ (e = 0 → TabG (hasZ ([] : List NN)) 400 T' ∧ ∃ h : o < T'.length, T'[o].kind = 6 ∧ T'[o].kids = [j]) := by
  have ek : kidsK T [typT T j] = ([j], 0, T) := by
    rw [kidsK, typT_again hT.toTabW (j + 1) j (Nat.lt_succ_self _) hj, if_pos rfl, kidsK]
  have et : treeK T (.mk 6 [] [] [typT T j]) = numK T (optK j) := by rw [treeK, ek, if_pos rfl]; rfl
  have ok : okK (hasZ ([] : List NN)) (.mk 6 [] [] [typT T j]) = true ∧ sizeZ (.mk 6 [] [] [typT T j]) ≤ 400 :=
    ⟨by simp [okK, okKs, ownC, formB, kidsN, (hT.ok j hj).1], by simp [sizeZ, sizeZs]; omega⟩
  obtain ⟨e1, e2, e3, e4⟩ := addK_g hT ok
  rw [e1, et] at e2 e3 e4
  obtain ⟨⟨o, e, T'⟩, hq⟩ : ∃ q, numK T (optK j) = q := ⟨_, rfl⟩
  rw [hq] at e2 e3 e4
  refine ⟨o, e, T', hq, e3, fun h0 => ⟨e2, ?_⟩⟩
  subst h0
  obtain ⟨ho, -⟩ := e4 rfl
  refine ⟨ho, ?_⟩
  have hot : T'[o] = optK j := by
    unfold numK at hq
    split at hq
    · injection hq with h1 h5; injection h5 with _ h5
      subst h1 h5
      exact List.getElem_idxOf ho
    · split at hq
      · injection hq with _ h1; injection h1 with h1 _; cases h1
      · injection hq with h1 h5; injection h5 with _ h5
        subst h1 h5
        simp
  rw [hot]; exact ⟨rfl, rfl⟩
end Sp
end Go.Proofs.Ytdophmlnmbcjlaa
namespace Go.Proofs.Ytdophmlnmbcjlaa
open Go.RowKit
namespace Sp
open Sc
set_option maxRecDepth 100000
/-- The schema. -/
def optS (x y : Tz) : Sz := ⟨.mk 5 [] [] [x], [], [⟨[102], [.mk 3 [] [] []], y⟩]⟩
/-- What its table says. -/
structure OptJ (x y : Tz) (T : List Kz) (m p q kx : Nat) : Prop where
  good : TabG (hasZ ([] : List NN)) 400 T
  ml : m < T.length
  pl : p < T.length
  ql : q < T.length
  kl : kx < T.length
  mq : T[m].kind = 5 ∧ T[m].kids = [kx]
  pk : T[p].kind = 3
  tx : typT T kx = x
  ty : typT T q = y
theorem opt_tab {x y : Tz} {tab : Tab} (h : BuiltK (optS x y) tab) : ∃ p q kx, tab.N = [] ∧ tab.G = [([102], [p], q)] ∧ OptJ x y tab.T tab.m p q kx := by
  have hN : tab.N = [] := by
    cases hn : tab.N with
    | nil => rfl
    | cons a l =>
      have := h.has a.1
      rw [hn] at this
      simp [hasZ, optS] at this
  have hg : TabG (hasZ ([] : List NN)) 400 tab.T := h.good
  have hl : tab.G.length = 1 := h.glen
  obtain ⟨g, hG⟩ : ∃ g, tab.G = [g] := by
    match hq : tab.G, hl with
    | [g], _ => exact ⟨g, rfl⟩
  have hs := h.sigs 0 (by omega) (by show 0 < 1; omega)
  have e0 : tab.G[0]'(by omega) = g := by simp [hG]
  rw [e0] at hs
  obtain ⟨n, ids, q⟩ := g
  have hn : n = [102] := hs.name
  obtain ⟨hp1, hp2⟩ := hs.par
  have hids : ∃ p, ids = [p] := by
    have := congrArg List.length hp2
    rw [List.length_map] at this
    match ids, this with
    | [p], _ => exact ⟨p, rfl⟩
  obtain ⟨p, rfl⟩ := hids
  have hpl : p < tab.T.length := hp1 p (by simp)
  have hpt : typT tab.T p = .mk 3 [] [] [] := by
    have : [typT tab.T p] = [Tz.mk 3 [] [] []] := hp2
    injection this
  have hm := h.main
  have hmt : typT tab.T tab.m = .mk 5 [] [] [x] := hm.2
  rw [typT_at hg.kids hm.1] at hmt
  injection hmt with k1 k2 k3 k4
  obtain ⟨kx, hkx⟩ : ∃ kx, tab.T[tab.m].kids = [kx] := by
    have := congrArg List.length k4
    rw [List.length_map] at this
    match hq : (tab.T[tab.m]).kids, this with
    | [a], _ => exact ⟨a, rfl⟩
  rw [hkx] at k4
  have hkl : kx < tab.T.length := by have := hg.kids tab.m hm.1 kx (by rw [hkx]; simp); omega
  rw [typT_at hg.kids hpl] at hpt
  injection hpt with j1 _ _ _
  refine ⟨p, q, kx, hN, by rw [hG, hn], hg, hm.1, hpl, hs.res.1, hkl, ⟨k1, hkx⟩, j1, ?_, hs.res.2⟩
  have : [typT tab.T kx] = [x] := k4
  injection this
theorem opn_is {T : List Kz} (hg : TabG (hasZ ([] : List NN)) 400 T) {i : Nat} (hi : i < T.length) : opnK T [] i = T[i] := by
  unfold opnK
  rw [open_id (nice_of hg) hi, getD_at hi]
theorem kind_of {T : List Kz} (hg : TabG (hasZ ([] : List NN)) 400 T) {i : Nat} (hi : i < T.length) {x : Tz} (h : typT T i = x) : T[i].kind = x.kind := by rw [← h]; exact (typT_kind hg.kids hi).symm
section
variable {x y : Tz} {T : List Kz} {m p q kx : Nat}
theorem OptJ.get (h : OptJ x y T m p q kx) : ofJ T [] [103, 101, 116] [m, p] = if x.kind = 6 then (0, 17, T) else numK T (optK kx) := by
  have hm : opnK T [] m = T[m]'h.ml := opn_is h.good h.ml
  have hp : opnK T [] p = T[p]'h.pl := opn_is h.good h.pl
  have hk : opnK T [] kx = T[kx]'h.kl := opn_is h.good h.kl
  have e1 : fitsJ 9 T [] p (opnK T [] m) (opnK T [] p) = !decide (x.kind = 6) := by
    simp only [fitsJ]
    rw [hm, hp, h.mq.1, h.mq.2, h.pk]
    show (true && (true && !decide ((opnK T [] kx).kind = 6))) = _
    rw [hk, kind_of h.good h.kl h.tx]
    rfl
  have e2 : ansJ [103, 101, 116] T (opnK T [] m) = numK T (optK kx) := by
    rw [hm]
    show numK T (optK ((T[m]'h.ml).kids.getD 0 0)) = _
    rw [h.mq.2]
    rfl
  show (if fitsJ 9 T [] p (opnK T [] m) (opnK T [] p) = true then ansJ [103, 101, 116] T (opnK T [] m) else (0, 17, T)) = _
  rw [e1, e2]
  by_cases h6 : x.kind = 6 <;> simp [h6]
end
/-- Behind get: the Opt is there. -/
structure OptK (x y : Tz) (T : List Kz) (q kx o : Nat) : Prop where
  good : TabG (hasZ ([] : List NN)) 400 T
  ql : q < T.length
  kl : kx < T.length
  ol : o < T.length
  ok : T[o].kind = 6 ∧ T[o].kids = [kx]
  tx : typT T kx = x
  six : x.kind ≠ 6
theorem size_kid {T : List Kz} (hg : TabG (hasZ ([] : List NN)) 400 T) {m kx : Nat} (hm : m < T.length) (hk : T[m].kids = [kx]) : sizeZ (typT T kx) ≤ 399 := by
  have := (hg.ok m hm).2
  rw [typT_at hg.kids hm, hk] at this
  simp [sizeZ, sizeZs] at this
  omega
theorem OptJ.made {x y : Tz} {T : List Kz} {m p q kx : Nat} (h : OptJ x y T m p q kx) (h6 : x.kind ≠ 6) : ∃ o e T1, numK T (optK kx) = (o, e, T1) ∧ (e = 0 ∨ e = 20) ∧ (e = 0 → OptK x y T1 q kx o) := by
  obtain ⟨o, e, T1, h1, h2, h3⟩ := opt_one h.good h.kl (size_kid h.good h.ml h.mq.2)
  have he := numK_e T (optK kx)
  rw [h1] at he
  refine ⟨o, e, T1, h1, he, fun e0 => ?_⟩
  obtain ⟨g1, o1, o2⟩ := h3 e0
  exact ⟨g1, Nat.lt_of_lt_of_le h.ql h2.length_le, Nat.lt_of_lt_of_le h.kl h2.length_le, o1, o2, by rw [typT_prefix h2 h.good.kids h.kl]; exact h.tx, h6⟩
section
variable {x y : Tz} {T : List Kz} {q kx o : Nat}
theorem OptK.add (h : OptK x y T q kx o) : addK (hasZ ([] : List NN)) T x = (kx, 0, T) := by
  have := trees_pure h.good h.kl
  rw [h.tx] at this
  exact this
theorem OptK.orelse (h : OptK x y T q kx o) (z : Nat) : ofJ T [] [111, 114, 101, 108, 115, 101] [o, z] = if z = kx then (kx, 0, T) else (0, 17, T) := by
  have ho : opnK T [] o = T[o]'h.ol := opn_is h.good h.ol
  show (if fitsJ 11 T [] z (opnK T [] o) (opnK T [] z) = true then ((opnK T [] o).kids.getD 0 0, 0, T) else (0, 17, T)) = _
  simp only [fitsJ]
  rw [ho, h.ok.1, h.ok.2]
  by_cases hz : z = kx <;> simp [hz]
theorem OptK.has (h : OptK x y T q kx o) : ofJ T [] [104, 97, 115] [o] = numK T (baseK 1) := by
  have ho : opnK T [] o = T[o]'h.ol := opn_is h.good h.ol
  show (if fitsJ 10 T [] 0 (opnK T [] o) nod0 = true then numK T (baseK 1) else (0, 17, T)) = _
  simp only [fitsJ]
  rw [ho, h.ok.1]
  rfl
theorem OptK.none (h : OptK x y T q kx o) : ofJ T [] [104, 97, 115] [kx] = (0, 17, T) := by
  have ho : opnK T [] kx = T[kx]'h.kl := opn_is h.good h.kl
  show (if fitsJ 10 T [] 0 (opnK T [] kx) nod0 = true then numK T (baseK 1) else (0, 17, T)) = _
  simp only [fitsJ]
  rw [ho, kind_of h.good h.kl h.tx, decide_eq_false h.six]
  rfl
/-- Behind has: a Bool more, or an error. -/
theorem OptK.bool (h : OptK x y T q kx o) : ∃ b e T2, numK T (baseK 1) = (b, e, T2) ∧ OptK x y T2 q kx o ∧ (e = 0 ∨ e = 20) ∧ ∃ hb : b < T2.length, e = 0 → T2[b].kind = 1 := by
  obtain ⟨e20, g3, pre3, hok, hbad⟩ := base_pure h.good 1 (by omega) (by omega)
  obtain ⟨⟨b, e, T2⟩, hq⟩ : ∃ r, numK T (baseK 1) = r := ⟨_, rfl⟩
  rw [hq] at e20 g3 pre3 hok hbad
  dsimp only at e20 g3 pre3 hok hbad
  have hlen := pre3.length_le
  have hgo : ∃ ho : o < T2.length, T2[o] = T[o]'h.ol := get_prefix pre3 h.ol
  obtain ⟨ho, hoe⟩ := hgo
  refine ⟨b, e, T2, hq, ⟨g3, Nat.lt_of_lt_of_le h.ql hlen, Nat.lt_of_lt_of_le h.kl hlen, ho, ⟨by rw [hoe]; exact h.ok.1, by rw [hoe]; exact h.ok.2⟩, by rw [typT_prefix pre3 h.good.kids h.kl]; exact h.tx, h.six⟩, e20, ?_⟩
  rcases e20 with e0 | e0
  · obtain ⟨hb, hk, -⟩ := hok e0
    exact ⟨hb, fun _ => hk⟩
  · obtain ⟨-, hb0, hb1⟩ := hbad e0
    exact ⟨by omega, fun e1 => by omega⟩
end
end Sp
end Go.Proofs.Ytdophmlnmbcjlaa
