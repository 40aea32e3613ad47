/- Le: whether a type fits where another is asked, and how many pairs were opened. -/
import Derived.Test.YteooafgdmpbjeabW50
import Derived.Test.YteooafgdmpbjeabW46
import Derived.Test.YteooafgdmpbjeabW43
import Derived.Test.YteooafgdmpbjeabW25
import Derived.Test.YteooafgdmpbjeabW20
namespace Go.Proofs.Yteooafgdmpbjeab
open Go.RowKit
namespace Sp
open Sc
set_option maxRecDepth 100000
set_option maxHeartbeats 4000000 in
theorem shas_any (i : Nat) (w : World) (tb rb nb mb sb m : Nat) (ty nu : Value) (T : List Kz) (N : List NN) (hT : TabV w tb rb nb mb sb m ty nu T) (hN : TxtV w mb (encNN N)) (hO : OpL T N) (hi : i < T.length) :
    Calls Try.prog 30 #[.pointer (some ⟨tb, 0, none⟩), .int .i64 (i : Nat)] w fun e w' => e = .returned (.bool true) ∧ Below w.heap.size w w' := by
  have HC := Lib.hid (topen_any i 13 _ w tb rb nb mb sb m ty nu T N hT hN hi rfl (hO.ne i hi) hO.look)
  clear hT hN hO hi
  go_enter Try.func30, Try.ntmps30
  go_wp2_with (go_at_call 50; (refine HC.out.mono ?_); rintro e w1 ⟨rfl, b1⟩; have HB1 := Lib.hid b1; clear b1)
  go_ret
  exact ⟨rfl, HB1.out⟩
set_option maxHeartbeats 4000000 in
theorem le_any (a b : Nat) (w : World) (tb rb nb mb sb m : Nat) (ty nu : Value) (T : List Kz) (N : List NN) (hT : TabV w tb rb nb mb sb m ty nu T) (hN : TxtV w mb (encNN N)) (hO : OpL T N) (ha : a < T.length) (hb : b < T.length) :
    Calls Try.prog 13 #[.pointer (some ⟨tb, 0, none⟩), .int .i64 (a : Nat), .int .i64 (b : Nat)] w fun e w' => e = .returned (.tuple #[.bool (leL T (openK T N 13) a b).1, .int .i64 ((leL T (openK T N 13) a b).2.length : Nat)]) ∧ Below w.heap.size w w' := by
  have HA := Lib.hid (fun W (hW : Below w.heap.size w W) => shas_any a W tb rb nb mb sb m ty nu T N (hT.below hW) (hN.below hW) hO ha)
  have HB := Lib.hid (fun W (hW : Below w.heap.size w W) => shas_any b W tb rb nb mb sb m ty nu T N (hT.below hW) (hN.below hW) hO hb)
  have CH := fun (qb ob : Nat) W (H : RwL W qb ob tb rb nb mb sb m ty nu T N []) => hold_all qb ob tb rb nb mb sb m ty nu T N hT.wf hO (T.length * T.length + 1) [] a b W H ha hb (PrG.nil _) (by simp)
  have hg := (holdsL_g hT.wf hO.lt (T.length * T.length + 1)).ok [] a b (PrG.nil _) ha hb
  obtain ⟨q, hq⟩ : ∃ q, q = leL T (openK T N 13) a b := ⟨_, rfl⟩
  rw [← hq]
  unfold leL at hq
  rw [← hq] at hg CH
  have HT := Lib.hid hT; have HN := Lib.hid hN; have HCH := Lib.hid CH; have HG := Lib.hid hg
  have hlt := hT.tlt; have hml := hN.lt
  clear hT hN hO ha hb CH hg hq
  have hmm := @run_makeMap Try.prog
  go_enter Try.func13, Try.ntmps13
  go_upto_region 3 with (first
    | (go_at_call 30; (with_reducible refine (HA.out _ (Below.refl _ _)).mono ?_); rintro e w1 ⟨rfl, b1⟩; have hz1 := b1.size; have HB1 := Lib.hid b1; clear b1)
    | (go_at_call 30; (with_reducible refine (HB.out _ HB1.out).mono ?_); rintro e w2 ⟨rfl, b2⟩; have hz2 := b2.size; have HB2 := Lib.hid b2; clear b2))
  go_upto_region 4 with fail
  obtain ⟨W3, hW3⟩ : ∃ W3, W3 = (w2.alloc (.map #[] 0)).alloc (.cells #[.pointer (some ⟨tb, 0, none⟩), .map (some w2.heap.size)] 81) := ⟨_, rfl⟩
  have hz3 : W3.heap.size = w2.heap.size + 2 := by rw [hW3]; simp
  have hb3 : Below w2.heap.size w2 W3 := by rw [hW3]; exact ((Below.refl _ _).alloc (Nat.le_refl _) _).alloc (by simp) _
  have hq3 : W3.heap[w2.heap.size + 1]? = some (.cells #[.pointer (some ⟨tb, 0, none⟩), .map (some w2.heap.size)] 81 (0, 0)) := by rw [hW3, blk_if, if_pos (by simp)]
  have hp3 : PrsV W3 w2.heap.size [] := by
    refine (PrsV.made w2).same ?_
    rw [hW3, Below.heap_alloc _ _ _ (by simp)]
  have hb03 : Below w.heap.size w W3 := HB1.out.trans ((HB2.out.mono (by omega)).trans (hb3.mono (by omega)))
  rw [← hW3]
  have CH := HCH.out (w2.heap.size + 1) w2.heap.size W3 ⟨hq3, HT.out.below hb03, HN.out.below hb03, hp3, (fun ho => by have := HT.out.lt ho; omega), by omega⟩
  have HCH2 := Lib.hid CH; have HB03 := Lib.hid hb03; have HQ3 := Lib.hid hq3
  clear CH hb03 hq3 hb3 hp3 hW3 HCH
  go_upto_region 5 with (go_at_call 31; (with_reducible refine HCH2.out.mono ?_); rintro e w4 ⟨rfl, hp4, hk4⟩; have HP4 := Lib.hid hp4; have HK4 := Lib.hid hk4; clear hp4 hk4)
  obtain ⟨y0, y1⟩ := two_blkR ((HK4.out.block (w2.heap.size + 1) (by omega) (by omega)).trans HQ3.out)
  have hlen := fun ty => HP4.out.len HG.out.1.nd ty
  go_wp2
  go_ret2
  exact ⟨rfl, HB03.out.trans (HK4.out.below (B := w.heap.size) (by omega) (fun g e => by omega))⟩
end Sp
end Go.Proofs.Yteooafgdmpbjeab
namespace Go.Proofs.Yteooafgdmpbjeab
open Go.RowKit
namespace Sp
open Sc
set_option maxRecDepth 100000
def opB (T : List Kz) (N : List NN) : Bool :=
  (List.range T.length).all (fun i => decide (openK T N 13 i < T.length) && decide ((T.getD (openK T N 13 i) default).kind ≠ 9)) &&
    T.all (fun k => (decide (k.kind ≠ 9) || decide (lookN N k.name < T.length)) && (decide (k.kind ≠ 4 ∧ k.kind ≠ 5 ∧ k.kind ≠ 6) || decide (k.kids.length = 1)))
theorem opB_is {T : List Kz} {N : List NN} (h : opB T N = true) : OpL T N := by
  unfold opB at h
  rw [Bool.and_eq_true, List.all_eq_true, List.all_eq_true] at h
  obtain ⟨h1, h2⟩ := h
  refine ⟨fun i hi => ?_, fun i hi => ?_, fun k hk h9 => ?_, fun k hk h4 => ?_⟩
  · have := h1 i (List.mem_range.2 hi)
    rw [Bool.and_eq_true, decide_eq_true_eq] at this
    exact this.1
  · have := h1 i (List.mem_range.2 hi)
    rw [Bool.and_eq_true, decide_eq_true_eq, decide_eq_true_eq] at this
    exact this.2
  · have := h2 k hk
    simp only [Bool.and_eq_true, Bool.or_eq_true, decide_eq_true_eq] at this
    rcases this.1 with h | h
    · exact absurd h9 h
    · exact h
  · have := h2 k hk
    simp only [Bool.and_eq_true, Bool.or_eq_true, decide_eq_true_eq] at this
    rcases this.2 with h | h
    · omega
    · exact h
/-- The answers of two tables' methods. -/
theorem StV.le {B : Nat} {w : World} {tb rb nb mb sb m : Nat} {ty nu : Value} {T : List Kz} {N : List NN} {G : List GN} {vs : List Value} (h : StV B w tb rb nb mb sb m ty nu T N G vs) (hO : OpL T N) {a b : Nat} (ha : a < T.length) (hb : b < T.length) :
    Calls Try.prog 13 #[.pointer (some ⟨tb, 0, none⟩), .int .i64 (a : Nat), .int .i64 (b : Nat)] w fun e w' => e = .returned (.tuple #[.bool (leL T (openK T N 13) a b).1, .int .i64 ((leL T (openK T N 13) a b).2.length : Nat)]) ∧ Below w.heap.size w w' :=
  le_any a b w tb rb nb mb sb m ty nu T N h.tab h.names hO ha hb
/-- Add, of a type that lies beside the table. -/
theorem StV.adds {B : Nat} {w : World} {tb rb nb mb sb m : Nat} {ty nu : Value} {T : List Kz} {N : List NN} {G : List GN} {vs : List Value} (h : StV B w tb rb nb mb sb m ty nu T N G vs) (hB : B ≤ w.heap.size) {t : Tz} (hf : fitZ t = true) (hs : shortZ t = true) {S : Nat → Prop} {c : C4} (hV : TzV w S t c) (hS : ∀ g, S g → g < w.heap.size ∧ ¬ Own tb rb nb g)
    {i e : Nat} {T' : List Kz} (hq : addK (hasZ N) T t = (i, e, T')) :
    Calls Try.prog 11 #[.pointer (some ⟨tb, 0, none⟩), .agg #[.int .i64 c.k, .string c.n, .slice c.an c.ln c.cn, .slice c.ak c.lk c.ck]] w fun en w' => ∃ rb' nb' ty' nu', en = .returned (.tuple #[.int .i64 (i : Nat), .int .i64 (e : Nat)]) ∧ StV B w' tb rb' nb' mb sb m ty' nu' T' N G vs ∧ Below B w w' ∧ Keeps (Own tb rb nb) w w' := by
  have C := add_any t hf hs w tb rb nb mb sb m ty nu T N S c h.tab h.names hV hS
  rw [hq] at C
  refine C.mono ?_
  rintro en w' ⟨rb', nb', ty', nu', rfl, ha⟩
  obtain ⟨h1, h2⟩ := h.add ha hB
  exact ⟨rb', nb', ty', nu', rfl, h1, h2, ha.keeps⟩
theorem StV.main {B : Nat} {w : World} {tb rb nb mb sb m : Nat} {ty nu : Value} {T : List Kz} {N : List NN} {G : List GN} {vs : List Value} (h : StV B w tb rb nb mb sb m ty nu T N G vs) :
    Calls Try.prog 16 #[.pointer (some ⟨tb, 0, none⟩)] w fun e w' => e = .returned (.int .i64 (m : Nat)) ∧ Below w.heap.size w w' := main_any w tb rb nb mb sb m ty nu T h.tab
/-- New, of a schema that is written out. -/
theorem new_at {w : World} {args : Array Value} (s : Sz) {c : C4} {a1 a2 : Option Addr} {us : List (List UInt8 × C4)} {gs : List (List UInt8 × G6)} (c1 c2 : Nat) (hV : SzV w (Any w) s c a1 us a2 gs)
    (ha : args = #[.agg #[.int .i64 c.k, .string c.n, .slice c.an c.ln c.cn, .slice c.ak c.lk c.ck, .slice a1 s.types.length c1, .slice a2 s.sigs.length c2]]) (hf : fitS s = true) (hsh : ShortS s) (hl : s.types.length ≤ 1000000 ∧ s.sigs.length ≤ 1000000) {tab : Tab} (hn : newK s = (0, tab)) :
    Calls Try.prog 9 args w fun e w' => ∃ tb rb nb mb sb ty nu vs, e = .returned (.tuple #[.pointer (some ⟨tb, 0, none⟩), .int .i64 0]) ∧ StV w.heap.size w' tb rb nb mb sb tab.m ty nu tab.T tab.N tab.G vs ∧ Below w.heap.size w w' := by
  subst ha
  refine (New_any s c a1 a2 us gs c1 c2 w (Any w) (fun _ h => h) hV (SzFit.of hf) hsh hl.1 hl.2).mono ?_
  rintro e w' ⟨⟨h1, -⟩, hb⟩
  rw [hn] at h1
  obtain ⟨tb, rb, nb, mb, sb, ty, nu, vs, rfl, hst⟩ := h1 rfl
  exact ⟨tb, rb, nb, mb, sb, ty, nu, vs, rfl, hst, hb⟩
theorem made {w W : World} {l : List Obj} (h : W = allocs w l) : ∀ (i : Nat) (o : Obj), l[i]? = some o → W.heap[w.heap.size + i]? = some o := fun i o ho => by
  obtain ⟨hi, rfl⟩ := List.getElem?_eq_some_iff.1 ho
  rw [h]; exact allocs_at l w i hi
def a6 : Tz := .mk 7 [] [[97], [98]] [zI, zI]
def b6 : Tz := .mk 7 [] [[97]] [.mk 6 [] [] [zI]]
def s6 : Sz := ⟨a6, [], []⟩
def t6 : Tab := (newK s6).2
def k6 : Nat × Nat × List Kz := addK (hasZ t6.N) t6.T b6
theorem known6_pure : ((newK s6).1 = 0 ∧ t6.N = [] ∧ t6.m < k6.2.2.length ∧ k6.1 < k6.2.2.length ∧ k6.2.1 = 0) ∧ opB k6.2.2 t6.N = true ∧ (leL k6.2.2 (openK k6.2.2 t6.N 13) t6.m k6.1).1 = true ∧ (leL k6.2.2 (openK k6.2.2 t6.N 13) k6.1 t6.m).1 = false := by
  have h : (decide ((newK s6).1 = 0 ∧ t6.N = [] ∧ t6.m < k6.2.2.length ∧ k6.1 < k6.2.2.length ∧ k6.2.1 = 0) && (opB k6.2.2 t6.N && ((leL k6.2.2 (openK k6.2.2 t6.N 13) t6.m k6.1).1 && !(leL k6.2.2 (openK k6.2.2 t6.N 13) k6.1 t6.m).1))) = true := by kernel_rfl
  simpa only [Bool.and_eq_true, decide_eq_true_eq, Bool.not_eq_true'] using h
set_option maxHeartbeats 4000000 in
theorem known6_any (w : World) :
    Calls Try.prog 8 #[] w fun e w' => e = .returned (.bool true) ∧ Below w.heap.size w w' := by
  obtain ⟨⟨p1, p2, p3, p4, p5⟩, p6, p7, p8⟩ := known6_pure
  have hn : newK s6 = (0, t6) := Prod.ext p1 rfl
  have hk : addK (hasZ t6.N) t6.T b6 = (k6.1, 0, k6.2.2) := by rw [← p5]; rfl
  have hO := opB_is p6
  generalize k6.1 = k at *
  generalize k6.2.2 = T2 at *
  generalize t6 = tab at *
  obtain ⟨W1, hW1⟩ : ∃ W1, W1 = allocs w [.cells #[.int .i64 2, .string ⟨#[]⟩, .slice none 0 0, .slice none 0 0] 31, .cells #[.string ⟨#[97]⟩, .string ⟨#[98]⟩] 9,
      .cells #[.int .i64 2, .string ⟨#[]⟩, .slice none 0 0, .slice none 0 0, .int .i64 2, .string ⟨#[]⟩, .slice none 0 0, .slice none 0 0] 31,
      .cells #[.int .i64 7, .string ⟨#[]⟩, .slice (some ⟨w.heap.size + 1, 0, none⟩) 2 2, .slice (some ⟨w.heap.size + 1 + 1, 0, none⟩) 2 2] 31,
      .cells #[.string ⟨#[97]⟩] 9, .cells #[.int .i64 2, .string ⟨#[]⟩, .slice none 0 0, .slice none 0 0] 31,
      .cells #[.int .i64 6, .string ⟨#[]⟩, .slice none 0 0, .slice (some ⟨w.heap.size + 1 + 1 + 1 + 1 + 1, 0, none⟩) 1 1] 31,
      .cells #[.int .i64 7, .string ⟨#[]⟩, .slice (some ⟨w.heap.size + 1 + 1 + 1 + 1, 0, none⟩) 1 1, .slice (some ⟨w.heap.size + 1 + 1 + 1 + 1 + 1 + 1, 0, none⟩) 1 1] 31] := ⟨_, rfl⟩
  have hb1 : Below w.heap.size w W1 := by rw [hW1]; exact allocs_below _ _
  have hz1 : W1.heap.size = w.heap.size + 8 := by rw [hW1, allocs_size]; rfl
  have q := made hW1
  have HA : TzV W1 (Any W1) a6 ⟨7, ⟨#[]⟩, some ⟨w.heap.size + 1, 0, none⟩, 2, 2, some ⟨w.heap.size + 1 + 1, 0, none⟩, 2, 2⟩ := TzV.two 7 [97] [98] (c := ⟨2, ⟨#[]⟩, none, 0, 0, none, 0, 0⟩) (d := ⟨2, ⟨#[]⟩, none, 0, 0, none, 0, 0⟩) (q 1 _ rfl) (q 2 _ rfl) (TzV.leaf _ _ 2 []) (TzV.leaf _ _ 2 [])
  have HBV : TzV W1 (Any W1) b6 ⟨7, ⟨#[]⟩, some ⟨w.heap.size + 1 + 1 + 1 + 1, 0, none⟩, 1, 1, some ⟨w.heap.size + 1 + 1 + 1 + 1 + 1 + 1, 0, none⟩, 1, 1⟩ := TzV.fld 7 [97] (c := ⟨6, ⟨#[]⟩, none, 0, 0, some ⟨w.heap.size + 1 + 1 + 1 + 1 + 1, 0, none⟩, 1, 1⟩) (q 4 _ rfl) (q 6 _ rfl) (TzV.kid (c := ⟨2, ⟨#[]⟩, none, 0, 0, none, 0, 0⟩) 6 (q 5 _ rfl) (TzV.leaf _ _ 2 []))
  obtain ⟨⟨a0, a1, a2, a3⟩, -⟩ := four_blk (q 3 _ rfl)
  have HQB := Lib.hid (show W1.heap[w.heap.size + 1 + 1 + 1 + 1 + 1 + 1 + 1]? = some (.cells #[.int .i64 7, .string ⟨#[]⟩, .slice (some ⟨w.heap.size + 1 + 1 + 1 + 1, 0, none⟩) 1 1, .slice (some ⟨w.heap.size + 1 + 1 + 1 + 1 + 1 + 1, 0, none⟩) 1 1] 31 (0, 0)) from q 7 _ rfl)
  have CN := new_at s6 0 0 (SzV.build HA (NmsV.nil none) (SgsV.nil none)) rfl (by kernel_rfl) ⟨fun i h => (by cases h), ⟨rfl, rfl⟩, fun g h => by cases h⟩ ⟨by simp [s6], by simp [s6]⟩ hn
  simp only [allocs] at hW1
  have HCN := Lib.hid CN; have HB1 := Lib.hid hb1; have HBV2 := Lib.hid HBV; have HW1 := Lib.hid hW1; have HO := Lib.hid hO; have HK := Lib.hid hk
  have H3 := Lib.hid p3; have H4 := Lib.hid p4; have H7 := Lib.hid p7; have H8 := Lib.hid p8
  clear CN hb1 HBV HA q hW1 p1 p5 p6 hn hO hk p3 p4 p7 p8
  go_enter Try.func8, Try.ntmps8
  go_upto_region 4 with fail
  rw [← HW1.out]
  clear HW1
  go_upto_region 7 with (go_at_call 9; (refine HCN.out.mono ?_); rintro e w2 ⟨tb, rb, nb, mb, sb, ty, nu, vs, rfl, s2, x2⟩; have hz2 := x2.size; obtain ⟨⟨b0, b1, b2, b3⟩, -⟩ := four_blk ((x2.block _ (by omega)).trans HQB.out); have CA := s2.adds x2.size rfl rfl (HBV2.out.keep (S' := Any W1) (fun _ h => h) (fun g hg => x2.block g hg)) (fun g hg => ⟨Nat.lt_of_lt_of_le hg x2.size, s2.far hg⟩) HK.out; have HCA := Lib.hid CA; have HX2 := Lib.hid x2; clear CA s2 x2)
  go_upto_region 8 with (go_at_call 11; (refine HCA.out.mono ?_); rintro e w3 ⟨rb3, nb3, ty3, nu3, rfl, s3, x3, -⟩; have hz3 := x3.size; have HS3 := Lib.hid s3; have HX3 := Lib.hid x3; clear s3 x3)
  go_upto_region 9 with (first
    | (go_at_call 16; (refine HS3.out.main.mono ?_); rintro e w4 ⟨rfl, x4⟩; have HS4 := Lib.hid (HS3.out.below x4); have HX4 := Lib.hid x4; clear x4)
    | (go_at_call 13; (refine (HS4.out.le HO.out H3.out H4.out).mono ?_); rintro e w5 ⟨rfl, x5⟩; rw [H7.out]; have HS5 := Lib.hid (HS4.out.below x5); have HX5 := Lib.hid x5; clear x5))
  go_wp2_with (first
    | (go_at_call 16; (refine HS5.out.main.mono ?_); rintro e w6 ⟨rfl, x6⟩; have HS6 := Lib.hid (HS5.out.below x6); have HX6 := Lib.hid x6; clear x6)
    | (go_at_call 13; (refine (HS6.out.le HO.out H4.out H3.out).mono ?_); rintro e w7 ⟨rfl, x7⟩; rw [H8.out]; have HX7 := Lib.hid x7; clear x7))
  go_ret
  exact ⟨rfl, HB1.out.trans ((HX2.out.trans (HX3.out.trans ((HX4.out.trans ((HX5.out.trans ((HX6.out.trans (HX7.out.mono HX6.out.size)).mono HX5.out.size)).mono HX4.out.size)).mono (Nat.le_trans HX2.out.size (by omega))))).mono (by omega))⟩
end Sp
end Go.Proofs.Yteooafgdmpbjeab
namespace Go.Proofs.Yteooafgdmpbjeab
open Go.RowKit
namespace Sp
open Sc
/-- What the statement makes: the block of the name, the row of names, the block of the kid, the row of kids. -/
structure Tw where
  tn : Value
  an : Value
  tk : Value
  ak : Value
section
variable {W0 : World} {B tb base : Nat} {q : Int} {c : Nat} {xn xk : Value} {ns ks nw kw : List Value} {l6 l7 l12 l13 l15 l17 : Bool} {x : Tw} {v : World}
theorem rep_getDL (n i : Nat) : (Array.replicate n false).getD i false = false := by
  rw [Array.getD_eq_getD_getElem?]
  by_cases hi : i < n <;> simp [hi]
end
end Sp
end Go.Proofs.Yteooafgdmpbjeab
namespace Go.Proofs.Yteooafgdmpbjeab
open Go.RowKit
namespace Sp
open Sc
/-- Add, of a type that lies beside the table; where the table has grown to. -/
theorem StV.adds2 {B : Nat} {w : World} {tb rb nb mb sb m : Nat} {ty nu : Value} {T : List Kz} {N : List NN} {G : List GN} {vs : List Value} (h : StV B w tb rb nb mb sb m ty nu T N G vs) (hB : B ≤ w.heap.size) {t : Tz} (hf : fitZ t = true) (hs : shortZ t = true) {S : Nat → Prop} {c : C4} (hV : TzV w S t c) (hS : ∀ g, S g → g < w.heap.size ∧ ¬ Own tb rb nb g)
    {i e : Nat} {T' : List Kz} (hq : addK (hasZ N) T t = (i, e, T')) :
    Calls Try.prog 11 #[.pointer (some ⟨tb, 0, none⟩), .agg #[.int .i64 c.k, .string c.n, .slice c.an c.ln c.cn, .slice c.ak c.lk c.ck]] w fun en w' => ∃ rb' nb' ty' nu', en = .returned (.tuple #[.int .i64 (i : Nat), .int .i64 (e : Nat)]) ∧ StV B w' tb rb' nb' mb sb m ty' nu' T' N G vs ∧ Below B w w' ∧ Keeps (Own tb rb nb) w w' ∧ ∀ g, Own tb rb' nb' g → Own tb rb nb g ∨ w.heap.size ≤ g := by
  have C := add_any t hf hs w tb rb nb mb sb m ty nu T N S c h.tab h.names hV hS
  rw [hq] at C
  refine C.mono ?_
  rintro en w' ⟨rb', nb', ty', nu', rfl, ha⟩
  obtain ⟨h1, h2⟩ := h.add ha hB
  exact ⟨rb', nb', ty', nu', rfl, h1, h2, ha.keeps, ha.grew.own⟩
end Sp
end Go.Proofs.Yteooafgdmpbjeab
