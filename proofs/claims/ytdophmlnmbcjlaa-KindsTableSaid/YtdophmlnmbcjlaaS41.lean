/- known and within of chapter 6's laws; a table whose names lead somewhere, by a test. -/
import Derived.Test.YtdophmlnmbcjlaaS40
import Derived.Test.YtdophmlnmbcjlaaS37
import Derived.Test.YtdophmlnmbcjlaaS21
import Derived.Test.YtdophmlnmbcjlaaS39
namespace Go.Proofs.Ytdophmlnmbcjlaa
open Go.RowKit
namespace Sp
open Sc
set_option maxRecDepth 100000
def opB (T : List Kz) (N : List NN) : Bool :=
  (List.range T.length).all (fun i => decide (openK T N 13 i < T.length) && decide ((T.getD (openK T N 13 i) default).kind ≠ 9)) &&
    T.all (fun k => (decide (k.kind ≠ 9) || decide (lookN N k.name < T.length)) && (decide (k.kind ≠ 4 ∧ k.kind ≠ 5 ∧ k.kind ≠ 6) || decide (k.kids.length = 1)))
theorem opB_is {T : List Kz} {N : List NN} (h : opB T N = true) : OpL T N := by
  unfold opB at h
  rw [Bool.and_eq_true, List.all_eq_true, List.all_eq_true] at h
  obtain ⟨h1, h2⟩ := h
  refine ⟨fun i hi => ?_, fun i hi => ?_, fun k hk h9 => ?_, fun k hk h4 => ?_⟩
  · have := h1 i (List.mem_range.2 hi)
    rw [Bool.and_eq_true, decide_eq_true_eq] at this
    exact this.1
  · have := h1 i (List.mem_range.2 hi)
    rw [Bool.and_eq_true, decide_eq_true_eq, decide_eq_true_eq] at this
    exact this.2
  · have := h2 k hk
    simp only [Bool.and_eq_true, Bool.or_eq_true, decide_eq_true_eq] at this
    rcases this.1 with h | h
    · exact absurd h9 h
    · exact h
  · have := h2 k hk
    simp only [Bool.and_eq_true, Bool.or_eq_true, decide_eq_true_eq] at this
    rcases this.2 with h | h
    · omega
    · exact h
/-- Add, of a type that lies beside the table. -/
theorem StV.adds {B : Nat} {w : World} {tb rb nb mb sb m : Nat} {ty nu : Value} {T : List Kz} {N : List NN} {G : List GN} {vs : List Value} (h : StV B w tb rb nb mb sb m ty nu T N G vs) (hB : B ≤ w.heap.size) {t : Tz} (hf : fitZ t = true) (hs : shortZ t = true) {S : Nat → Prop} {c : C4} (hV : TzV w S t c) (hS : ∀ g, S g → g < w.heap.size ∧ ¬ Own tb rb nb g)
    {i e : Nat} {T' : List Kz} (hq : addK (hasZ N) T t = (i, e, T')) :
    Calls Try.prog 20 #[.pointer (some ⟨tb, 0, none⟩), .agg #[.int .i64 c.k, .string c.n, .slice c.an c.ln c.cn, .slice c.ak c.lk c.ck]] w fun en w' => ∃ rb' nb' ty' nu', en = .returned (.tuple #[.int .i64 (i : Nat), .int .i64 (e : Nat)]) ∧ StV B w' tb rb' nb' mb sb m ty' nu' T' N G vs ∧ Below B w w' ∧ Keeps (Own tb rb nb) w w' := by
  have C := add_any t hf hs w tb rb nb mb sb m ty nu T N S c h.tab h.names hV hS
  rw [hq] at C
  refine C.mono ?_
  rintro en w' ⟨rb', nb', ty', nu', rfl, ha⟩
  obtain ⟨h1, h2⟩ := h.add ha hB
  exact ⟨rb', nb', ty', nu', rfl, h1, h2, ha.keeps⟩
theorem StV.opts {B : Nat} {w : World} {tb rb nb mb sb m : Nat} {ty nu : Value} {T : List Kz} {N : List NN} {G : List GN} {vs : List Value} (h : StV B w tb rb nb mb sb m ty nu T N G vs) (hB : B ≤ w.heap.size) {k : Nat} (hk : k < T.length)
    {i e : Nat} {T' : List Kz} (hq : numK T (optK k) = (i, e, T')) :
    Calls Try.prog 76 #[.pointer (some ⟨tb, 0, none⟩), .int .i64 (k : Nat)] w fun en w' => ∃ rb' nb' ty' nu', en = .returned (.tuple #[.int .i64 (i : Nat), .int .i64 (e : Nat)]) ∧ StV B w' tb rb' nb' mb sb m ty' nu' T' N G vs ∧ Below B w w' ∧ Keeps (Own tb rb nb) w w' := by
  have C := topt_any k w tb rb nb mb sb m ty nu T h.tab hk
  rw [hq] at C
  refine C.mono ?_
  rintro en w' ⟨rb', nb', ty', nu', rfl, ha⟩
  obtain ⟨h1, h2⟩ := h.add ha hB
  exact ⟨rb', nb', ty', nu', rfl, h1, h2, ha.keeps⟩
theorem StV.main {B : Nat} {w : World} {tb rb nb mb sb m : Nat} {ty nu : Value} {T : List Kz} {N : List NN} {G : List GN} {vs : List Value} (h : StV B w tb rb nb mb sb m ty nu T N G vs) :
    Calls Try.prog 17 #[.pointer (some ⟨tb, 0, none⟩)] w fun e w' => e = .returned (.int .i64 (m : Nat)) ∧ Below w.heap.size w w' := main_any w tb rb nb mb sb m ty nu T h.tab
/-- New, of a schema that is written out. -/
theorem new_at {w : World} {args : Array Value} (s : Sz) {c : C4} {a1 a2 : Option Addr} {us : List (List UInt8 × C4)} {gs : List (List UInt8 × G6)} (c1 c2 : Nat) (hV : SzV w (Any w) s c a1 us a2 gs)
    (ha : args = #[.agg #[.int .i64 c.k, .string c.n, .slice c.an c.ln c.cn, .slice c.ak c.lk c.ck, .slice a1 s.types.length c1, .slice a2 s.sigs.length c2]]) (hf : fitS s = true) (hsh : ShortS s) (hl : s.types.length ≤ 1000000 ∧ s.sigs.length ≤ 1000000) {tab : Tab} (hn : newK s = (0, tab)) :
    Calls Try.prog 10 args w fun e w' => ∃ tb rb nb mb sb ty nu vs, e = .returned (.tuple #[.pointer (some ⟨tb, 0, none⟩), .int .i64 0]) ∧ StV w.heap.size w' tb rb nb mb sb tab.m ty nu tab.T tab.N tab.G vs ∧ Below w.heap.size w w' := by
  subst ha
  refine (New_any s c a1 a2 us gs c1 c2 w (Any w) (fun _ h => h) hV (SzFit.of hf) hsh hl.1 hl.2).mono ?_
  rintro e w' ⟨⟨h1, -⟩, hb⟩
  rw [hn] at h1
  obtain ⟨tb, rb, nb, mb, sb, ty, nu, vs, rfl, hst⟩ := h1 rfl
  exact ⟨tb, rb, nb, mb, sb, ty, nu, vs, rfl, hst, hb⟩
theorem made {w W : World} {l : List Obj} (h : W = allocs w l) : ∀ (i : Nat) (o : Obj), l[i]? = some o → W.heap[w.heap.size + i]? = some o := fun i o ho => by
  obtain ⟨hi, rfl⟩ := List.getElem?_eq_some_iff.1 ho
  rw [h]; exact allocs_at l w i hi
def a6 : Tz := .mk 7 [] [[97], [98]] [zI, zI]
def b6 : Tz := .mk 7 [] [[97]] [.mk 6 [] [] [zI]]
def s6 : Sz := ⟨a6, [], []⟩
def t6 : Tab := (newK s6).2
def k6 : Nat × Nat × List Kz := addK (hasZ t6.N) t6.T b6
end Sp
end Go.Proofs.Ytdophmlnmbcjlaa
namespace Go.Proofs.Ytdophmlnmbcjlaa
open Go.RowKit
namespace Sp
open Sc
set_option maxRecDepth 100000
/-- Which row of the chapter's table a builtin function has: 0 and, or; 1 not; 2 what asks for two numbers; 3 conversions; 4 eq; 5 cat; 6 text; 7 len; 8 at; 9 get; 10 has; 11 orelse. -/
def clsJ (nm : List UInt8) : Nat :=
  if [[97, 110, 100], [111, 114]].contains nm then 0 else if nm == [110, 111, 116] then 1
  else if [[108, 116], [97, 100, 100], [115, 117, 98], [109, 117, 108], [115, 104, 108], [115, 104, 114]].contains nm then 2
  else if [[105, 56], [105, 49, 54], [105, 51, 50], [117, 56], [117, 49, 54], [117, 51, 50]].contains nm then 3
  else if nm == [101, 113] then 4 else if nm == [99, 97, 116] then 5 else if nm == [116, 101, 120, 116] then 6 else if nm == [108, 101, 110] then 7
  else if nm == [97, 116] then 8 else if nm == [103, 101, 116] then 9 else if nm == [104, 97, 115] then 10 else 11
/-- How many arguments it takes. -/
def takesJ (nm : List UInt8) : Nat := if [1, 3, 6, 7, 10].contains (clsJ nm) then 1 else 2
/-- A type of the table, opened. -/
def opnK (T : List Kz) (N : List NN) (i : Nat) : Kz := T.getD (openK T N 13 i) default
/-- What is of no kind. -/
def nod0 : Kz := ⟨0, [], [], []⟩
/-- Whether it takes what is given: the second number, both opened. -/
def fitsJ (c : Nat) (T : List Kz) (N : List NN) (y : Nat) (a b : Kz) : Bool :=
  match c with
  | 0 => decide (a.kind = 1) && decide (b.kind = 1)
  | 1 => decide (a.kind = 1)
  | 2 => decide (a.kind = 2) && decide (b.kind = 2)
  | 3 => decide (a.kind = 2)
  | 4 => decide (a.kind = b.kind) && (decide (a.kind = 1) || (decide (a.kind = 2) || decide (a.kind = 3)))
  | 5 => decide (a.kind = 3) && decide (b.kind = 3)
  | 6 => decide (a.kind = 2) || decide (a.kind = 1)
  | 7 => decide (a.kind = 3) || (decide (a.kind = 4) || decide (a.kind = 5))
  | 8 => decide (a.kind = 4) && decide (b.kind = 2)
  | 9 => decide (a.kind = 5) && (decide (b.kind = 3) && !decide ((opnK T N (a.kids.getD 0 0)).kind = 6))
  | 10 => decide (a.kind = 6)
  | _ => decide (a.kind = 6) && decide (y = a.kids.getD 0 0)
/-- What it answers. -/
def ansJ (nm : List UInt8) (T : List Kz) (a : Kz) : Nat × Nat × List Kz :=
  if clsJ nm = 8 ∨ clsJ nm = 11 then (a.kids.getD 0 0, 0, T) else if clsJ nm = 9 then numK T (optK (a.kids.getD 0 0))
  else if [0, 1, 4, 10].contains (clsJ nm) || nm == [108, 116] then numK T (baseK 1) else if [5, 6].contains (clsJ nm) then numK T (baseK 3) else numK T (baseK 2)
/-- What a builtin function answers. -/
def ofJ (T : List Kz) (N : List NN) (nm : List UInt8) (l : List Nat) : Nat × Nat × List Kz :=
  if l.length ≠ takesJ nm then (0, 18, T) else
    if fitsJ (clsJ nm) T N (l.getD 1 0) (opnK T N (l.getD 0 0)) (if 1 < l.length then opnK T N (l.getD 1 0) else nod0) then ansJ nm T (opnK T N (l.getD 0 0)) else (0, 17, T)
theorem opnK_at {T : List Kz} {N : List NN} (hO : OpL T N) {i : Nat} (hi : i < T.length) : opnK T N i = T[openK T N 13 i]'(hO.lt i hi) := getD_at (hO.lt i hi)
/-- Numbers of types, in memory. -/
def idsL (l : List Nat) : List (List Value) := l.map fun (j : Nat) => [Value.int .i64 (j : Nat)]
theorem idsL_cell {w : World} {S : Nat → Prop} {a : Option Addr} {l : List Nat} (h : RowV w S a 1 (idsL l)) {i : Nat} (hi : i < l.length) : ∃ g o, a = some ⟨g, o, none⟩ ∧ S g ∧ w.cell? ⟨g, o + i, none⟩ = some (.int .i64 (l.getD i 0 : Nat)) := by
  rcases h with h | ⟨g, o, ha, hg, hc⟩
  · rw [List.map_eq_nil_iff.1 h] at hi; cases hi
  · refine ⟨g, o, ha, hg, ?_⟩
    have := hc i (by simpa [idsL] using hi) 0 (.int .i64 (l.getD i 0 : Nat)) (by simp [idsL, hi])
    rw [Nat.mul_one, Nat.add_zero] at this
    exact this
end Sp
end Go.Proofs.Ytdophmlnmbcjlaa
namespace Go.Proofs.Ytdophmlnmbcjlaa
open Go.RowKit
namespace Sp
open Sc
set_option maxRecDepth 100000
set_option maxHeartbeats 4000000 in
theorem takes_any (s : List UInt8) (w : World) (hb : builtinB s = true) :
    Calls Try.prog 48 #[.string ⟨s.toArray⟩] w fun e w' => e = .returned (.int .i64 (takesJ s : Nat)) ∧ w = w' := by
  rcases Builtin_cases s hb with rfl | rfl | rfl | rfl | rfl | rfl | rfl | rfl | rfl | rfl | rfl | rfl | rfl | rfl | rfl | rfl | rfl | rfl | rfl | rfl | rfl | rfl | rfl
  all_goals
    go_enter Try.func48, Try.ntmps48
    go_wp2
    go_ret
    exact ⟨rfl, rfl⟩
set_option maxHeartbeats 4000000 in
theorem opened_any (i : Nat) (w : World) (tb rb nb mb sb m : Nat) (ty nu : Value) (T : List Kz) (N : List NN) (hT : TabV w tb rb nb mb sb m ty nu T) (hN : TxtV w mb (encNN N)) (hO : OpL T N) (hi : i < T.length) :
    Calls Try.prog 49 #[.pointer (some ⟨tb, 0, none⟩), .int .i64 (i : Nat)] w fun e w' => ∃ an ln cn ak ck, e = .returned (.agg #[.int .i64 (opnK T N i).kind, .string ⟨(opnK T N i).name.toArray⟩, .slice an ln cn, .slice ak (opnK T N i).kids.length ck]) ∧
      RowV w' (fun g => w.heap.size ≤ g ∧ g < w'.heap.size) ak 1 (idsL (opnK T N i).kids) ∧ Below w.heap.size w w' := by
  have hrl := hO.lt i hi
  have hr9 := hO.ne i hi
  rw [opnK_at hO hi]
  obtain ⟨r, hr⟩ : ∃ r, openK T N 13 i = r := ⟨_, rfl⟩
  simp only [hr] at hrl hr9 ⊢
  obtain ⟨W0, hW0⟩ : ∃ W0, W0 = w.alloc (.cells nodZ 59) := ⟨_, rfl⟩
  have hz0 : W0.heap.size = w.heap.size + 1 := by rw [hW0]; simp
  have hb0 : Below w.heap.size w W0 := by rw [hW0]; exact (Below.refl _ _).alloc (Nat.le_refl _) _
  have hn0 : W0.heap[w.heap.size]? = some (.cells nodZ 59 (0, 0)) := by rw [hW0]; exact heap_alloc_new w _
  have CO := topen_any i 13 r W0 tb rb nb mb sb m ty nu T N (hT.below hb0) (hN.below hb0) hi hr hr9 hO.look
  have CN := fun W (hW : Below w.heap.size w W) => tnode_in r W tb rb nb mb sb m ty nu T (hT.below hW) hrl
  have HCO := Lib.hid CO; have HCN := Lib.hid CN; have HN0 := Lib.hid hn0; have HB0 := Lib.hid hb0; have HW0 := Lib.hid hW0
  generalize T[r] = k at *
  clear CO CN hn0 hb0 hW0 hT hN hr hr9 hO hrl
  go_enter Try.func49, Try.ntmps49
  go_upto_region 1 with fail
  rw [show w.alloc (.cells #[.int .i64 0, .string ⟨#[]⟩, .slice none 0 0, .slice none 0 0] 59) = W0 from HW0.out.symm]
  go_upto_region 4 with (go_at_call 75; (refine HCO.out.mono ?_); rintro e w1 ⟨rfl, b1⟩; have hz1 := b1.size; have HB1 := Lib.hid b1; clear b1)
  go_upto_region 5 with (go_at_call 21; (refine (HCN.out w1 (HB0.out.trans (HB1.out.mono (by omega)))).mono ?_); rintro e w2 ⟨an, cn, ak, ck, rfl, r1, r2, b2⟩; have hz2 := b2.size; have HR2 := Lib.hid r2; have HB2 := Lib.hid b2; clear r1 r2 b2)
  have hv2 : w2.heap[w.heap.size]? = some (.cells nodZ 59 (0, 0)) := (HB2.out.block w.heap.size (by omega)).trans ((HB1.out.block w.heap.size (by omega)).trans HN0.out)
  obtain ⟨W3, hW3⟩ : ∃ W3, W3 = w2.alloc (.cells #[.int .i64 k.kind, .string ⟨k.name.toArray⟩, .slice an k.names.length cn, .slice ak k.kids.length ck] 59) := ⟨_, rfl⟩
  have hb3 : Below w2.heap.size w2 W3 := by rw [hW3]; exact (Below.refl _ _).alloc (Nat.le_refl _) _
  have hv3 : W3.heap[w.heap.size]? = some (.cells nodZ 59 (0, 0)) := (hb3.block _ (by omega)).trans hv2
  have hn3 : W3.heap[w2.heap.size]? = some (.cells #[.int .i64 k.kind, .string ⟨k.name.toArray⟩, .slice an k.names.length cn, .slice ak k.kids.length ck] 59 (0, 0)) := by rw [hW3]; exact heap_alloc_new w2 _
  rw [← hW3]
  have hz3 : W3.heap.size = w2.heap.size + 1 := by rw [hW3]; simp
  obtain ⟨⟨y0, y1, y2, y3⟩, ⟨f0, f1, f2, f3⟩⟩ := four_blk hv3
  obtain ⟨⟨x0, x1, x2, x3⟩, -⟩ := four_blk hn3
  have HB3 := Lib.hid hb3; have HV3 := Lib.hid hv3
  clear hW3 hb3 hv3 hn3 hv2
  go_wp2
  obtain ⟨W2, hW2⟩ : ∃ W2, W2 = (((W3.setCell ⟨w.heap.size, 0, none⟩ (.int .i64 k.kind)).setCell ⟨w.heap.size, 1, none⟩ (.string ⟨k.name.toArray⟩)).setCell ⟨w.heap.size, 2, none⟩ (.slice an k.names.length cn)).setCell ⟨w.heap.size, 3, none⟩ (.slice ak k.kids.length ck) := ⟨_, rfl⟩
  have hx2 : W2.heap[w.heap.size]? = some (.cells #[.int .i64 k.kind, .string ⟨k.name.toArray⟩, .slice an k.names.length cn, .slice ak k.kids.length ck] 59 (0, 0)) := by
    rw [hW2]
    exact set_four HV3.out
  have hk2 : Keeps (fun g => g = w.heap.size) W3 W2 := by rw [hW2]; exact ((((Keeps.refl (fun g => g = w.heap.size) _).setCell 0 _ rfl).setCell 1 _ rfl).setCell 2 _ rfl).setCell 3 _ rfl
  rw [← hW2]
  have hz2' := hk2.size
  refine bodyPost_ret (v := .agg #[.int .i64 k.kind, .string ⟨k.name.toArray⟩, .slice an k.names.length cn, .slice ak k.kids.length ck]) (results_cell_row rfl _ W2 w.heap.size 59 _ (0, 0) _ rfl hx2 Try.underlying59 rfl (by kernel_rfl)) rfl ?_
  exact ⟨an, k.names.length, cn, ak, ck, rfl, HR2.out.keep (fun g hg => ⟨by have := hg.1; omega, by have := hg.2; omega⟩) (fun g hg => (hk2.block g (by have := hg.2; omega) (by have := hg.1; omega)).trans (HB3.out.block g hg.2)),
    HB0.out.trans ((HB1.out.mono (by omega)).trans ((HB2.out.mono (by omega)).trans ((HB3.out.mono (by omega)).trans (hk2.below (by omega) (fun g e => by omega)))))⟩
end Sp
end Go.Proofs.Ytdophmlnmbcjlaa
namespace Go.Proofs.Ytdophmlnmbcjlaa
open Go.RowKit
namespace Sp
open Sc
set_option maxRecDepth 100000
/-- What a builtin function is given, in memory: the table, the numbers, the first one opened, the second one's kind. -/
structure GivV (w : World) (gb tb : Nat) (aa ak : Option Addr) (ca ck : Nat) (l : List Nat) (ka : Int) (kids : List Nat) (kb : Int) : Prop where
  c0 : w.cell? ⟨gb, 0, none⟩ = some (.pointer (some ⟨tb, 0, none⟩))
  c1 : w.cell? ⟨gb, 1, none⟩ = some (.slice aa l.length ca)
  c2 : w.cell? ⟨gb, 2, none⟩ = some (.int .i64 ka)
  c5 : w.cell? ⟨gb, 5, none⟩ = some (.slice ak kids.length ck)
  c6 : w.cell? ⟨gb, 6, none⟩ = some (.int .i64 kb)
  ra : RowV w (Any w) aa 1 (idsL l)
  rk : RowV w (Any w) ak 1 (idsL kids)
theorem bel_drews {w : World} {n : Nat} : Below w.heap.size w (w.drewN n) := have h := Below.refl w.heap.size w; ⟨h.os, h.tape, h.output, h.size, h.block⟩
theorem bel_drews2 {w : World} {n k : Nat} : Below w.heap.size w ((w.drewN n).drewN k) := have h := Below.refl w.heap.size w; ⟨h.os, h.tape, h.output, h.size, h.block⟩
end Sp
end Go.Proofs.Ytdophmlnmbcjlaa
